package patchtext

import (
	"strings"

	"redline/api"
	"redline/hunks"
	"redline/num"
)

const (
	// OldFront stands ahead of a line that goes, in the normal form.
	OldFront = "< "

	// NewFront stands ahead of a line that comes.
	NewFront = "> "

	// Divider is the line between lines that go and lines that come in their place.
	Divider = "---" + Feed
)

// What a change does, in the normal form.
const (
	putsIn    = "a"
	takesOut  = "d"
	exchanges = "c"
)

// Normal is the normal form of the change that a right hunk without kept lines is. Such a hunk has just the numbers that the form says.
func Normal(h api.Hunk) string {
	var text strings.Builder
	does := deed(h)
	text.WriteString(Range(h.A, h.AN) + does + Range(h.B, h.BN) + Feed)
	writeLines(&text, OldFront, hunks.Old(h))
	if does == exchanges {
		text.WriteString(Divider)
	}
	writeLines(&text, NewFront, hunks.New(h))
	return text.String()
}

// deed is what a hunk does.
func deed(h api.Hunk) string {
	switch {
	case h.AN == 0:
		return putsIn
	case h.BN == 0:
		return takesOut
	}
	return exchanges
}

// writeLines writes lines, each behind front.
func writeLines(text *strings.Builder, front string, l []string) {
	for _, line := range l {
		text.WriteString(front + Line(line))
	}
}

// Range is the range of count lines from a number on, as the normal and the context form say it; of none it is the number, which is that of the line ahead.
func Range(number, count int) string {
	if count <= 1 {
		return num.Text(number)
	}
	return num.Text(number) + "," + num.Text(number+count-1)
}

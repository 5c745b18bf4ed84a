package patchset_test

import (
	"errors"
	"fmt"
	"regexp"
	"strings"
	"testing"

	"redline/api"
	"redline/ctxfmt"
	"redline/normal"
	"redline/patchset"
	"redline/samples"
	"redline/unified"
)

// What Form, Parse and Print must answer, by the chapter's words alone.

// noFeed is the mark, as chapter 12 writes it.
const noFeed = "\\ No newline at end of file\n"

// Lines, by how they begin.
var (
	remark       = regexp.MustCompile(`^(\n$|[A-Za-z=#])`)
	unifiedFront = regexp.MustCompile(`^--- `)
	contextFront = regexp.MustCompile(`^\*\*\* `)
	normalFront  = regexp.MustCompile(`^[0-9]`)
)

// told is something as it is told, of a long one its beginning.
func told(x any) string {
	return fmt.Sprintf("%.400s", fmt.Sprintf("%+q", x))
}

// withoutRemarks is a text without its remarks.
func withoutRemarks(text string) string {
	var s strings.Builder
	for line := range strings.Lines(text) {
		if !remark.MatchString(line) {
			s.WriteString(line)
		}
	}
	return s.String()
}

// formByWords is the form of a text.
func formByWords(text string) int {
	rest := withoutRemarks(text)
	switch {
	case unifiedFront.MatchString(rest):
		return 3
	case contextFront.MatchString(rest):
		return 2
	case normalFront.MatchString(rest):
		return 1
	}
	return 0
}

// placeByWords is where in a text the line stands that is the one with the number at, if remarks are not counted.
func placeByWords(text string, at int) int {
	if at == 0 {
		return 0
	}
	n := 0
	for line := range strings.Lines(text) {
		n++
		if remark.MatchString(line) {
			continue
		}
		if at--; at == 0 {
			return n
		}
	}
	return n + 1
}

// parseByWords is the patches of a text and its form, or the place and the number of the fault.
func parseByWords(text string) (found []api.Patch, form, at int, code api.Errno) {
	if len(text) > 1<<20 {
		return nil, 0, 0, api.ErrLong
	}
	rest := withoutRemarks(text)
	if rest == "" {
		return nil, 0, 0, api.OK
	}
	var err error
	switch form = formByWords(text); form {
	case 3:
		found, err = unified.Parse(rest)
	case 2:
		found, err = ctxfmt.Parse(rest)
	case 1:
		var l []api.Hunk
		l, err = normal.Parse(rest)
		found = []api.Patch{{Hunks: l}}
	default:
		err = &api.Fault{At: 1, Err: api.ErrFormat}
	}
	var fault *api.Fault
	if errors.As(err, &fault) {
		return nil, 0, placeByWords(text, fault.At), fault.Err.(api.Errno)
	}
	return found, form, 0, api.OK
}

// checkForm holds Form against what it must answer.
func checkForm(t *testing.T, text string, want int) {
	t.Helper()
	if form := patchset.Form(text); form != want {
		t.Errorf("%s has the form %d, want %d", told(text), form, want)
	}
}

// checkParse holds Parse of a right text against what it must answer.
func checkParse(t *testing.T, text string, want []api.Patch, form int) {
	t.Helper()
	checkForm(t, text, form)
	l, of, err := patchset.Parse(text)
	if err != nil || of != form || !samples.SamePatches(l, want) {
		t.Errorf("%s: %s, %d, %v, want %s, %d", told(text), told(l), of, err, told(want), form)
	}
}

// checkFault holds Parse of a wrong text against the fault that it must answer, and nothing else.
func checkFault(t *testing.T, text string, at int, code api.Errno) {
	t.Helper()
	l, form, err := patchset.Parse(text)
	if len(l) != 0 || form != 0 || !samples.IsFault(err, at, code) {
		t.Errorf("%s: %s, %d, %v, want %d: error %d", told(text), told(l), form, err, at, code)
	}
}

// checkByWords holds Form and Parse of any text against the chapter's words, and tells whether the text is right.
func checkByWords(t *testing.T, text string) bool {
	t.Helper()
	want, form, at, code := parseByWords(text)
	if code == api.OK {
		checkParse(t, text, want, form)
		return true
	}
	checkForm(t, text, formByWords(text))
	checkFault(t, text, at, code)
	return false
}

// rangeByWords is the range of the lines from p to q.
func rangeByWords(p, q int) string {
	if p == q {
		return fmt.Sprint(p)
	}
	return fmt.Sprintf("%d,%d", p, q)
}

// normalByWords is the normal forms of what a right hunk changes, piece by piece.
func normalByWords(h api.Hunk) string {
	var s strings.Builder
	a, b := h.A-1, h.B-1 // how many lines are ahead
	if h.AN == 0 {
		a++
	}
	if h.BN == 0 {
		b++
	}
	var goes, comes []string // the texts of the lines that a piece takes out and puts in
	end := func() {
		out, in := len(goes), len(comes)
		old, made := strings.Join(goes, ""), strings.Join(comes, "")
		switch {
		case out > 0 && in > 0:
			fmt.Fprintf(&s, "%sc%s\n%s---\n%s", rangeByWords(a+1, a+out), rangeByWords(b+1, b+in), old, made)
		case out > 0:
			fmt.Fprintf(&s, "%sd%d\n%s", rangeByWords(a+1, a+out), b, old)
		case in > 0:
			fmt.Fprintf(&s, "%da%s\n%s", a, rangeByWords(b+1, b+in), made)
		}
		a, b = a+out, b+in
		goes, comes = nil, nil
	}
	for _, m := range h.Lines {
		text := strings.TrimSuffix(m.Text, "\n") + "\n"
		if text != m.Text {
			text += noFeed
		}
		switch m.Sign {
		case ' ':
			end()
			a, b = a+1, b+1
		case '-':
			goes = append(goes, "< "+text)
		case '+':
			comes = append(comes, "> "+text)
		}
	}
	end()
	return s.String()
}

// printByWords is what Print must answer.
func printByWords(l []api.Patch, form int) (string, api.Errno) {
	if form != 1 && form != 2 && form != 3 {
		return "", api.ErrKind
	}
	if len(l) > 64 || form == 1 && len(l) > 1 {
		return "", api.ErrLong
	}
	var s strings.Builder
	for _, p := range l {
		text, code := unified.Print(p)
		if code != api.OK {
			return "", code
		}
		switch form {
		case 3:
			s.WriteString(text)
		case 2:
			text, _ = ctxfmt.Print(p)
			s.WriteString(text)
		case 1:
			for _, h := range p.Hunks {
				s.WriteString(normalByWords(h))
			}
		}
	}
	return s.String(), api.OK
}

// checkPrint holds Print against what it must answer.
func checkPrint(t *testing.T, l []api.Patch, form int, want string, code api.Errno) {
	t.Helper()
	if s, err := patchset.Print(l, form); s != want || err != code {
		t.Errorf("%s in the form %d: %s, %d, want %s, %d", told(l), form, told(s), err, told(want), code)
	}
}

// checkPrintByWords holds Print in all forms against the chapter's words.
func checkPrintByWords(t *testing.T, l []api.Patch) {
	t.Helper()
	for form := -1; form <= 6; form++ {
		want, code := printByWords(l, form)
		checkPrint(t, l, form, want, code)
	}
}

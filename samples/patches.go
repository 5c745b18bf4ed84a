package samples

import (
	"math"
	"slices"
	"strconv"
	"strings"

	"redline/api"
)

// WrongHunk is a hunk, and what is wrong with it.
type WrongHunk struct {
	Hunk api.Hunk
	Err  api.Errno
}

// WrongHunks are some for each thing that may be wrong with a hunk.
func WrongHunks() []WrongHunk {
	const top = api.MaxNumber
	return []WrongHunk{
		{Hunk([4]int{-1, 1, 0, 0}, "-x\n"), api.ErrRange},
		{Hunk([4]int{1, -1, 0, 0}, "-x\n"), api.ErrRange},
		{Hunk([4]int{1, 1, -1, 0}, "-x\n"), api.ErrRange},
		{Hunk([4]int{1, 1, 0, -1}, "-x\n"), api.ErrRange},
		{Hunk([4]int{0, 1, 0, 0}, "-x\n"), api.ErrRange},
		{Hunk([4]int{0, 0, 0, 1}, "+x\n"), api.ErrRange},
		{Hunk([4]int{top + 1, 1, 0, 0}, "-x\n"), api.ErrRange},
		{Hunk([4]int{1, 1, top + 1, 0}, "-x\n"), api.ErrRange},
		{Hunk([4]int{1, math.MaxInt, 0, 0}, "-x\n"), api.ErrRange},
		{Hunk([4]int{math.MinInt, 1, math.MaxInt, 0}, "-x\n"), api.ErrRange},
		{Hunk([4]int{1, 1, 0, 0}, "-x\n", "!y\n"), api.ErrField},
		{Hunk([4]int{1, 1, 1, 1}, "!x\n"), api.ErrField},
		{Hunk([4]int{1, 1, 0, 0}, "\x00x\n"), api.ErrField},
		{Hunk([4]int{1, 1, 0, 0}, "-"), api.ErrField},
		{Hunk([4]int{1, 1, 0, 0}, "-x\ny\n"), api.ErrField},
		{Hunk([4]int{1, 2, 0, 0}, "-x", "-y\n"), api.ErrField},
		{Hunk([4]int{1, 1, 1, 2}, " x", "+y\n"), api.ErrField},
		{Hunk([4]int{1, 2, 0, 0}, "-x\n"), api.ErrCount},
		{Hunk([4]int{1, 1, 1, 1}, "-x\n"), api.ErrCount},
		{Hunk([4]int{1, 0, 0, 0}, "-x\n"), api.ErrCount},
		{Hunk([4]int{1, top, 0, 0}, "-x\n"), api.ErrCount},
		{Hunk([4]int{1, 1, 1, 1}, " x\n"), api.ErrScript},
		{api.Hunk{}, api.ErrScript},
		{Hunk([4]int{1, 0, 1, 0}), api.ErrScript},
	}
}

// SignedHunk is a hunk that stands at the first line of both texts, of such signs, each with a line of its own.
func SignedHunk(signs string) api.Hunk {
	var h api.Hunk
	for i, sign := range []byte(signs) {
		h.Lines = append(h.Lines, api.Mark{Sign: sign, Text: "line " + strconv.Itoa(i) + "\n"})
	}
	h.AN, h.BN = len(signs)-strings.Count(signs, "+"), len(signs)-strings.Count(signs, "-")
	h.A, h.B = min(h.AN, 1), min(h.BN, 1)
	return h
}

// Ends hands over a hunk with and without the last line feeds, also of lines that may not lack theirs.
func Ends(h api.Hunk, do func(h api.Hunk)) {
	for _, signs := range []string{"", " ", "-", "+", " -", " +"} {
		do(unfedHunk(h, signs))
	}
	do(unfedHunk(unfedHunk(h, "-"), "+"))
}

// unfedHunk is a hunk of which the last line with one of these signs lacks its line feed.
func unfedHunk(h api.Hunk, signs string) api.Hunk {
	h.Lines = slices.Clone(h.Lines)
	for i := len(h.Lines) - 1; i >= 0; i-- {
		if m := &h.Lines[i]; strings.IndexByte(signs, m.Sign) >= 0 {
			m.Text = strings.TrimSuffix(m.Text, "\n")
			break
		}
	}
	return h
}

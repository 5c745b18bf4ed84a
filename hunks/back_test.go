package hunks_test

import (
	"math"
	"slices"
	"strings"
	"testing"

	"redline/api"
	"redline/hunks"
	"redline/samples"
)

// checkInvert holds Invert against what it must answer.
func checkInvert(t *testing.T, h, want api.Hunk) {
	t.Helper()
	if back := hunks.Invert(h); !samples.SameHunk(back, want) {
		t.Errorf("%s the other way round: %s, want %s", told(h), told(back), told(want))
	}
}

// checkChanges holds Changes against what it must answer.
func checkChanges(t *testing.T, l []api.Hunk, want []api.Change, code api.Errno) {
	t.Helper()
	script, err := hunks.Changes(l)
	if !slices.Equal(script, want) || err != code {
		t.Errorf("changes of %s: %s, %d, want %s, %d", told(l), told(script), err, told(want), code)
	}
}

// turnedAbout is a sign as it is going back.
func turnedAbout(sign byte) byte {
	switch sign {
	case '-':
		return '+'
	case '+':
		return '-'
	}
	return sign
}

// invertByWords is the hunk that goes back, by the chapter's words: all signs are exchanged, then each piece is put in order.
func invertByWords(h api.Hunk) api.Hunk {
	back := api.Hunk{A: h.B, AN: h.BN, B: h.A, BN: h.AN}
	for _, m := range h.Lines {
		back.Lines = append(back.Lines, api.Mark{Sign: turnedAbout(m.Sign), Text: m.Text})
	}
	for from := range back.Lines {
		end := from
		for end < len(back.Lines) && strings.IndexByte("-+", back.Lines[end].Sign) >= 0 {
			end++
		}
		slices.SortStableFunc(back.Lines[from:end], func(x, y api.Mark) int { return int(y.Sign) - int(x.Sign) }) // - is the greater byte
	}
	return back
}

// checkBack says all of Invert that must hold of any hunk: it goes by the chapter's words, and three times is once.
func checkBack(t *testing.T, h api.Hunk) {
	t.Helper()
	back := invertByWords(h)
	checkInvert(t, h, back)
	checkInvert(t, back, invertByWords(back))
	checkInvert(t, hunks.Invert(hunks.Invert(h)), back)
}

// Promise 11.4.

func TestInvertOfTheChaptersExample(t *testing.T) {
	checkInvert(t, samples.Hunk([4]int{2, 1, 1, 0}, "-2\n"), samples.Hunk([4]int{1, 0, 2, 1}, "+2\n"))
}

func TestInvertOfEdges(t *testing.T) {
	const most, least = math.MaxInt, math.MinInt
	for _, c := range []struct {
		name    string
		h, want api.Hunk
	}{
		{"nothing", api.Hunk{}, api.Hunk{}},
		{"numbers alone", samples.Hunk([4]int{1, 2, 3, 4}), samples.Hunk([4]int{3, 4, 1, 2})},
		{"numbers of all kinds", samples.Hunk([4]int{most, least, -1, api.MaxNumber + 1}), samples.Hunk([4]int{-1, api.MaxNumber + 1, most, least})},
		{"kept ones alone", samples.Hunk([4]int{1, 2, 1, 2}, " a\n", " b"), samples.Hunk([4]int{1, 2, 1, 2}, " a\n", " b")},
		{"one comes", samples.Hunk([4]int{0, 0, 1, 1}, "+a\n"), samples.Hunk([4]int{1, 1, 0, 0}, "-a\n")},
		{"one goes, one comes", samples.Hunk([4]int{1, 1, 1, 1}, "-a\n", "+b\n"), samples.Hunk([4]int{1, 1, 1, 1}, "-b\n", "+a\n")},
		{"one comes, one goes", samples.Hunk([4]int{1, 1, 1, 1}, "+b\n", "-a\n"), samples.Hunk([4]int{1, 1, 1, 1}, "-b\n", "+a\n")},
		{"in turn", samples.Hunk([4]int{1, 3, 1, 2}, "-a\n", "+b\n", "-c\n", "+d\n", "-e\n"), samples.Hunk([4]int{1, 2, 1, 3}, "-b\n", "-d\n", "+a\n", "+c\n", "+e\n")},
		{"kept ones around and between", samples.Hunk([4]int{1, 5, 1, 5}, " a\n", "-b\n", "+c\n", " d\n", "-e\n", "+f\n", " g\n"), samples.Hunk([4]int{1, 5, 1, 5}, " a\n", "-c\n", "+b\n", " d\n", "-f\n", "+e\n", " g\n")},
		{"the last piece is open", samples.Hunk([4]int{1, 2, 1, 1}, " d\n", "-e\n"), samples.Hunk([4]int{1, 1, 1, 2}, " d\n", "+e\n")},
		{"a sign of no kind stays, and parts pieces", samples.Hunk([4]int{1, 2, 1, 2}, "-a\n", "+b\n", "xc\n", "-d\n", "+e\n"), samples.Hunk([4]int{1, 2, 1, 2}, "-b\n", "+a\n", "xc\n", "-e\n", "+d\n")},
		{"signs of no kind at both ends", samples.Hunk([4]int{1, 2, 1, 2}, "\x00a\n", "-b", "\xffc\n"), samples.Hunk([4]int{1, 2, 1, 2}, "\x00a\n", "+b", "\xffc\n")},
		{"signs of no kind side by side", samples.Hunk([4]int{1, 2, 1, 2}, "-a", "xb", "yc", "+d"), samples.Hunk([4]int{1, 2, 1, 2}, "+a", "xb", "yc", "-d")},
		{"what is no line", samples.Hunk([4]int{1, 9, 1, 9}, "-", "+a\nb", "-\n\n", " ", "+"), samples.Hunk([4]int{1, 9, 1, 9}, "-a\nb", "+", "+\n\n", " ", "-")},
		{"the same text twice", samples.Hunk([4]int{1, 1, 1, 1}, "-a\n", "+a\n"), samples.Hunk([4]int{1, 1, 1, 1}, "-a\n", "+a\n")},
	} {
		t.Run(c.name, func(t *testing.T) {
			checkInvert(t, c.h, c.want)
			checkBack(t, c.h)
		})
	}
	for _, c := range slices.Concat(rightHunks(), wrongHunks(), numberCases()) {
		checkBack(t, c.h)
	}
}

func TestInvertOfAllShortHunks(t *testing.T) {
	marks := samples.Marks(" a\n", "-b\n", "+c\n", "xd\n", "-e", "+f")
	samples.Lists(marks, 5, func(l []api.Mark) { checkBack(t, api.Hunk{A: 1, AN: 2, B: 3, BN: 4, Lines: l}) })
	for sign := range 256 {
		h := api.Hunk{Lines: samples.Marks("-a\n", "+b\n", "?\n", "+c\n", "-d\n")}
		h.Lines[2].Sign = byte(sign)
		checkBack(t, h)
	}
}

// A long piece that comes ahead of what goes is not gone through again and again.
func TestInvertOfLongHunks(t *testing.T) {
	const n = 1 << 17
	goes, comes := slices.Repeat(samples.Marks("-a\n"), n), slices.Repeat(samples.Marks("+b\n"), n)
	h := counted(1, 1, slices.Concat(comes, goes))
	want := counted(1, 1, slices.Concat(slices.Repeat(samples.Marks("-b\n"), n), slices.Repeat(samples.Marks("+a\n"), n)))
	checkInvert(t, h, want)
	h.Lines = slices.Repeat(samples.Marks("-a\n", "+b\n", " c\n", "+b\n", "-a\n"), n)
	want.Lines = slices.Repeat(samples.Marks("-b\n", "+a\n", " c\n", "-b\n", "+a\n"), n)
	for i := 5; i+5 <= len(want.Lines); i += 5 { // two pieces touch there
		copy(want.Lines[i-2:], samples.Marks("-b\n", "-b\n", "+a\n", "+a\n"))
	}
	checkInvert(t, h, want)
}

// What is right stays so going back, and old lines are new ones then.
func TestInvertExchangesOldAndNew(t *testing.T) {
	for _, c := range slices.Concat(rightHunks(), wrongHunks()) {
		back := hunks.Invert(c.h)
		checkCheck(t, back, wrongByWords(back))
		if (c.want == api.OK) != (hunks.Check(back) == api.OK) {
			t.Errorf("%s: %d, and the other way round %d", told(c.h), c.want, hunks.Check(back))
		}
		checkSides(t, back, hunks.New(c.h), hunks.Old(c.h))
	}
}

// Promise 11.5.

func TestChangesOfEdges(t *testing.T) {
	const top = api.MaxNumber
	for _, c := range []struct {
		name string
		l    []api.Hunk
		want []api.Change
	}{
		{"none", nil, nil},
		{"an empty row", []api.Hunk{}, nil},
		{"one goes", []api.Hunk{takes(1, 1, 0)}, rows{{0, 1, 0, 0}}.Changes()},
		{"some go further on", []api.Hunk{takes(4, 2, 3)}, rows{{3, 2, 3, 0}}.Changes()},
		{"one comes", []api.Hunk{puts(0, 1, 1)}, rows{{0, 0, 0, 1}}.Changes()},
		{"some come further on", []api.Hunk{puts(3, 4, 2)}, rows{{3, 0, 3, 2}}.Changes()},
		{"one goes and one comes", []api.Hunk{at(5, 5)}, rows{{4, 1, 4, 1}}.Changes()},
		{"in turn", []api.Hunk{samples.Hunk([4]int{2, 2, 2, 3}, "+b\n", "-a\n", "+c\n", "-d\n", "+e\n")}, rows{{1, 2, 1, 3}}.Changes()},
		{"kept ones around", []api.Hunk{samples.Hunk([4]int{2, 4, 2, 3}, " a\n", " b\n", "-c\n", " d\n")}, rows{{3, 1, 3, 0}}.Changes()},
		{"kept ones between", []api.Hunk{samples.Hunk([4]int{1, 4, 1, 5}, "-a\n", " b\n", "+c\n", " d\n", "+e\n", "-f\n", "+g\n")}, rows{{0, 1, 0, 0}, {2, 0, 1, 1}, {3, 1, 3, 2}}.Changes()},
		{"hunks that touch, changes side by side", []api.Hunk{at(3, 3), at(4, 4)}, rows{{2, 2, 2, 2}}.Changes()},
		{"hunks that touch, one goes and one comes", []api.Hunk{takes(3, 2, 2), puts(4, 3, 1)}, rows{{2, 2, 2, 1}}.Changes()},
		{"hunks that touch, one comes and one goes", []api.Hunk{puts(2, 3, 1), takes(3, 2, 3)}, rows{{2, 2, 2, 1}}.Changes()},
		{"hunks that touch, both come", []api.Hunk{puts(0, 1, 2), puts(0, 3, 1)}, rows{{0, 0, 0, 3}}.Changes()},
		{"three that touch", []api.Hunk{at(1, 1), takes(2, 3, 1), puts(4, 2, 2)}, rows{{0, 4, 0, 3}}.Changes()},
		{"hunks that touch, the first ends with a kept one", []api.Hunk{samples.Hunk([4]int{1, 2, 1, 1}, "-a\n", " b\n"), at(3, 2)}, rows{{0, 1, 0, 0}, {2, 1, 1, 1}}.Changes()},
		{"hunks that touch, the second begins with a kept one", []api.Hunk{takes(1, 1, 0), samples.Hunk([4]int{2, 2, 1, 1}, " b\n", "-a\n")}, rows{{0, 1, 0, 0}, {2, 1, 1, 0}}.Changes()},
		{"hunks that touch, with kept ones on both sides", []api.Hunk{samples.Hunk([4]int{1, 2, 1, 1}, "-a\n", " b\n"), samples.Hunk([4]int{3, 2, 2, 1}, " b\n", "-a\n")}, rows{{0, 1, 0, 0}, {3, 1, 2, 0}}.Changes()},
		{"a line between", []api.Hunk{at(1, 1), at(3, 3)}, rows{{0, 1, 0, 1}, {2, 1, 2, 1}}.Changes()},
		{"far off", []api.Hunk{takes(1, 1, 0), at(top, top-1)}, rows{{0, 1, 0, 0}, {top - 1, 1, top - 2, 1}}.Changes()},
		{"the greatest places", []api.Hunk{samples.Hunk([4]int{top, 3, top, 2}, " a\n", " b\n", "-c\n")}, rows{{top + 1, 1, top + 1, 0}}.Changes()},
		{"the last lines lack their feeds", []api.Hunk{samples.Hunk([4]int{1, 2, 1, 2}, " a\n", "-b", "+c")}, rows{{1, 1, 1, 1}}.Changes()},
		{"the same line goes and comes", []api.Hunk{samples.Hunk([4]int{1, 1, 1, 1}, "-a\n", "+a\n")}, rows{{0, 1, 0, 1}}.Changes()},
	} {
		t.Run(c.name, func(t *testing.T) { checkChanges(t, c.l, c.want, api.OK) })
	}
}

func TestChangesOfRowsThatAreWrong(t *testing.T) {
	for _, c := range slices.Concat(wrongHunks(), numberCases()) {
		checkChanges(t, []api.Hunk{c.h}, nil, c.want)
		checkChanges(t, []api.Hunk{at(1, 1), c.h, at(7, 7)}, nil, c.want)
	}
	for _, c := range orderCases() {
		if c.want != api.OK {
			checkChanges(t, c.l, nil, c.want)
		}
	}
}

// signsOf is what a row of hunks in order does with each line up to the end of the last one, as signs.
func signsOf(l []api.Hunk) string {
	signs, end := "", 0
	for _, h := range l {
		from, to := stands(h.A, h.AN)
		signs += kept(from - end)
		for _, m := range h.Lines {
			signs += strings.ReplaceAll(string(rune(m.Sign)), " ", "=")
		}
		end = to
	}
	return signs
}

// checkScript holds Changes of a row in order against what its lines say one by one.
func checkScript(t *testing.T, l []api.Hunk) {
	t.Helper()
	checkChanges(t, l, samples.Script(signsOf(l)), api.OK)
}

// inOrder is hunks out of lines, each of them some lines behind the one ahead.
func inOrder(gaps []int, marks [][]api.Mark) []api.Hunk {
	var l []api.Hunk
	a, b := 0, 0
	for i, gap := range gaps {
		h := counted(a+gap, b+gap, marks[i])
		a, b = h.A+h.AN, h.B+h.BN
		if h.AN > 0 {
			h.A++
		}
		if h.BN > 0 {
			h.B++
		}
		l = append(l, h)
	}
	return l
}

func TestChangesOfAllShortRows(t *testing.T) {
	var pieces [][]api.Mark
	samples.Lists(samples.Marks(" a\n", "-b\n", "+c\n"), 3, func(l []api.Mark) {
		if signed(api.Hunk{Lines: l}, "-+") > 0 {
			pieces = append(pieces, l)
		}
	})
	samples.Lists(pieces, 2, func(marks [][]api.Mark) {
		samples.Lists([]int{0, 1, 2}, len(marks), func(gaps []int) {
			l := inOrder(gaps, marks)
			checkOrder(t, l, api.OK)
			checkScript(t, l)
		})
	})
	samples.Lists(shortHunks(4), 2, func(l []api.Hunk) {
		if orderByWords(l) == api.OK {
			checkScript(t, l)
		}
	})
}

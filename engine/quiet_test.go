package engine_test

import (
	"math"
	"slices"
	"testing"

	"redline/api"
	"redline/canon"
	"redline/engine"
	"redline/samples"
)

// blanks ignores blank lines alone.
var blanks = api.Ignore{Blank: true}

// checkQuiet holds Quiet against what it must answer, and Differs of that change alone against the opposite.
func checkQuiet(t *testing.T, c api.Change, a, b []string, o api.Ignore, want bool) {
	t.Helper()
	if got := engine.Quiet(c, a, b, o); got != want {
		t.Errorf("%+v: %v of %q and %q: quiet is %v", o, c, a, b, got)
	}
	if got := engine.Differs([]api.Change{c}, a, b, o); got == want {
		t.Errorf("%+v: %v of %q and %q: differs is %v", o, c, a, b, got)
	}
}

// named is the lines of a text from a place on, and whether it has them all.
func named(text []string, from, number int) ([]string, bool) {
	if from < 0 || from > len(text) || number < 0 {
		return nil, false
	}
	var l []string
	for len(l) < number {
		if from+len(l) == len(text) {
			return nil, false
		}
		l = append(l, text[from+len(l)])
	}
	return l, true
}

// quietByWords is what Quiet answers, by the chapter's words.
func quietByWords(c api.Change, a, b []string, o api.Ignore) bool {
	goes, hasA := named(a, c.A, c.AN)
	comes, hasB := named(b, c.B, c.BN)
	if !o.Blank || !hasA || !hasB {
		return false
	}
	for _, line := range slices.Concat(goes, comes) {
		if !canon.Blank(line, o) {
			return false
		}
	}
	return true
}

// quietCase is a change as A, AN, B and BN, what is ignored, and whether the change is quiet then.
type quietCase struct {
	name string
	c    [4]int
	o    api.Ignore
	want bool
}

// change is the case's change.
func (q quietCase) change() api.Change {
	return samples.Rows{q.c}.Changes()[0]
}

// quietTexts are the texts of the cases: of each the lines at 0, 2 and 3 are empty, that at 1 is not blank; the last two are blank only if white space is ignored, and the very last one lacks its line feed.
func quietTexts() (a, b []string) {
	return []string{"\n", "x\n", "\n", "\n", " \t\n", " "}, []string{"\n", "y\n", "\n", "\n", "\r\n", "\f"}
}

// quietCases are changes of which some are quiet.
func quietCases() []quietCase {
	trail := api.Ignore{Blank: true, Trail: true}
	return []quietCase{
		{"one goes", [4]int{0, 1, 0, 0}, blanks, true},
		{"several go", [4]int{2, 2, 0, 0}, blanks, true},
		{"one comes", [4]int{0, 0, 0, 1}, blanks, true},
		{"several come", [4]int{0, 0, 2, 2}, blanks, true},
		{"some go, some come", [4]int{2, 2, 2, 1}, blanks, true},
		{"none goes or comes", [4]int{1, 0, 1, 0}, blanks, true},
		{"none, at the front", [4]int{0, 0, 0, 0}, blanks, true},
		{"one goes, Blank is not set", [4]int{0, 1, 0, 0}, none, false},
		{"one comes, Blank is not set", [4]int{0, 0, 0, 1}, none, false},
		{"none, Blank is not set", [4]int{0, 0, 0, 0}, none, false},
		{"one goes, all but Blank is set", [4]int{0, 1, 0, 0}, api.Ignore{Space: true, White: true, Case: true, Tabs: true, Trail: true}, false},
		{"one that is not blank goes", [4]int{1, 1, 0, 0}, blanks, false},
		{"one that is not blank comes", [4]int{0, 0, 1, 1}, blanks, false},
		{"one that is not blank goes, a blank one comes", [4]int{1, 1, 0, 1}, blanks, false},
		{"a blank one goes, one that is not comes", [4]int{0, 1, 1, 1}, blanks, false},
		{"the first that goes is not blank", [4]int{1, 3, 0, 1}, blanks, false},
		{"the last that goes is not blank", [4]int{0, 2, 0, 1}, blanks, false},
		{"one between that goes is not blank", [4]int{0, 3, 0, 1}, blanks, false},
		{"the first that comes is not blank", [4]int{0, 1, 1, 3}, blanks, false},
		{"the last that comes is not blank", [4]int{0, 1, 0, 2}, blanks, false},
		{"one between that comes is not blank", [4]int{0, 1, 0, 3}, blanks, false},
		{"up to one that is not blank", [4]int{0, 1, 0, 1}, blanks, true},
		{"white space goes", [4]int{4, 2, 0, 0}, blanks, false},
		{"white space comes", [4]int{0, 0, 4, 2}, blanks, false},
		{"white space goes and comes, Trail", [4]int{4, 2, 4, 2}, trail, true},
		{"white space goes and comes, Space", [4]int{4, 2, 4, 2}, api.Ignore{Blank: true, Space: true}, true},
		{"white space goes and comes, White", [4]int{4, 2, 4, 2}, api.Ignore{Blank: true, White: true}, true},
		{"white space goes and comes, Tabs", [4]int{4, 2, 4, 2}, api.Ignore{Blank: true, Tabs: true}, false},
		{"white space goes and comes, Case", [4]int{4, 2, 4, 2}, api.Ignore{Blank: true, Case: true}, false},
		{"white space goes and comes, Trail without Blank", [4]int{4, 2, 4, 2}, api.Ignore{Trail: true}, false},
		{"up to the end", [4]int{2, 4, 2, 4}, trail, true},
		{"one that is not blank, with all", [4]int{0, 6, 0, 0}, all, false},
	}
}

// wrongCases are changes that name lines which the texts do not have, and such as just do not.
func wrongCases() []quietCase {
	const most, least = math.MaxInt, math.MinInt
	return []quietCase{
		{"at the end of a", [4]int{6, 0, 0, 1}, all, true},
		{"at the end of b", [4]int{0, 1, 6, 0}, all, true},
		{"at the end of both", [4]int{6, 0, 6, 0}, all, true},
		{"the last of both", [4]int{5, 1, 5, 1}, all, true},
		{"one from the end of a on", [4]int{6, 1, 0, 1}, all, false},
		{"one from the end of b on", [4]int{0, 1, 6, 1}, all, false},
		{"one more than a has", [4]int{2, 5, 0, 0}, all, false},
		{"one more than b has", [4]int{0, 0, 2, 5}, all, false},
		{"none, just beyond the end of a", [4]int{7, 0, 0, 1}, all, false},
		{"none, just beyond the end of b", [4]int{0, 1, 7, 0}, all, false},
		{"one, just beyond the end of a", [4]int{7, 1, 0, 1}, all, false},
		{"one, just beyond the end of b", [4]int{0, 1, 7, 1}, all, false},
		{"fewer than none, just beyond the end of a", [4]int{7, -1, 0, 1}, all, false},
		{"fewer than none, just beyond the end of b", [4]int{0, 1, 7, -1}, all, false},
		{"ahead of a", [4]int{-1, 1, 0, 1}, all, false},
		{"ahead of a, into it", [4]int{-1, 2, 0, 1}, all, false},
		{"ahead of a, none", [4]int{-1, 0, 0, 1}, all, false},
		{"ahead of b", [4]int{0, 1, -1, 1}, all, false},
		{"ahead of b, into it", [4]int{0, 1, -1, 2}, all, false},
		{"ahead of b, none", [4]int{0, 1, -1, 0}, all, false},
		{"fewer than none of a", [4]int{2, -1, 0, 1}, all, false},
		{"fewer than none of b", [4]int{0, 1, 2, -1}, all, false},
		{"as far as an int holds in a", [4]int{most, 1, 0, 1}, all, false},
		{"as far as an int holds in b", [4]int{0, 1, most, 1}, all, false},
		{"as many as an int holds of a", [4]int{0, most, 0, 1}, all, false},
		{"as many as an int holds of b", [4]int{0, 1, 0, most}, all, false},
		{"a sum that is no int, in a", [4]int{2, most, 0, 1}, all, false},
		{"a sum that is no int, in b", [4]int{0, 1, 2, most}, all, false},
		{"both as great as an int holds, in a", [4]int{most, most, 0, 1}, all, false},
		{"both as great as an int holds, in b", [4]int{0, 1, most, most}, all, false},
		{"a sum that comes round to the texts, in a", [4]int{most, least + 3, 0, 1}, all, false},
		{"a sum that comes round to the texts, in b", [4]int{0, 1, most, least + 3}, all, false},
		{"both as small as an int holds, in a", [4]int{least, least, 0, 1}, all, false},
		{"both as small as an int holds, in b", [4]int{0, 1, least, least}, all, false},
		{"ahead of a, and as many as come round to it", [4]int{least, most, 0, 1}, all, false},
		{"ahead of b, and as many as come round to it", [4]int{0, 1, least, most}, all, false},
	}
}

// Promise 10.2.

func TestQuietAtTheEdges(t *testing.T) {
	a, b := quietTexts()
	for _, q := range quietCases() {
		t.Run(q.name, func(t *testing.T) { checkQuiet(t, q.change(), a, b, q.o, q.want) })
	}
}

// Of these texts every line is blank, so that a change is not quiet only if it names others.
func TestQuietOfLinesThatAreNotThere(t *testing.T) {
	a := slices.Repeat([]string{" \n"}, 6)
	b := slices.Repeat([]string{"\n"}, 6)
	for _, q := range wrongCases() {
		t.Run(q.name, func(t *testing.T) { checkQuiet(t, q.change(), a, b, q.o, q.want) })
	}
}

// Behind a list's end there may be room: what lies there is no line of it.
func TestQuietLooksNotBehindTheEnd(t *testing.T) {
	room := slices.Repeat([]string{"\n"}, 6)
	for _, row := range [][4]int{{0, 3, 0, 0}, {2, 1, 0, 0}, {3, 0, 0, 0}, {0, 0, 0, 3}, {0, 0, 2, 1}, {0, 0, 3, 0}} {
		checkQuiet(t, samples.Rows{row}.Changes()[0], room[:2], room[:2], all, false)
	}
}

func TestQuietOfNoLines(t *testing.T) {
	for _, text := range [][]string{nil, {}} {
		checkQuiet(t, api.Change{}, text, text, blanks, true)
		checkQuiet(t, api.Change{}, text, text, none, false)
		checkQuiet(t, api.Change{AN: 1}, text, []string{"\n"}, blanks, false)
		checkQuiet(t, api.Change{BN: 1}, []string{"\n"}, text, blanks, false)
		checkQuiet(t, api.Change{BN: 1}, text, []string{"\n"}, blanks, true)
		checkQuiet(t, api.Change{AN: 1}, []string{"\n"}, text, blanks, true)
	}
}

func TestQuietIsByTheLineThatIsBlank(t *testing.T) {
	for _, o := range samples.Ignores() {
		samples.Lines("a\t \r\x00", 3, func(line string) {
			want := o.Blank && canon.Blank(line, o)
			checkQuiet(t, api.Change{AN: 1}, []string{line}, nil, o, want)
			checkQuiet(t, api.Change{BN: 1}, nil, []string{line}, o, want)
		})
	}
}

// numbers are places and numbers around short texts, and as far off as may be.
func numbers() []int {
	return []int{math.MinInt, -1, 0, 1, 2, 3, math.MaxInt}
}

// changes hands over every change out of some numbers.
func changes(numbers []int, do func(c api.Change)) {
	for _, a := range numbers {
		for _, an := range numbers {
			for _, b := range numbers {
				for _, bn := range numbers {
					do(api.Change{A: a, AN: an, B: b, BN: bn})
				}
			}
		}
	}
}

func TestQuietOfAllShortTexts(t *testing.T) {
	members := []string{"\n", " ", "x\n"}
	for _, o := range []api.Ignore{none, blanks, {Blank: true, Trail: true}, {Trail: true}} {
		samples.Lists(members, 2, func(a []string) {
			samples.Lists(members, 2, func(b []string) {
				changes(numbers(), func(c api.Change) {
					checkQuiet(t, c, a, b, o, quietByWords(c, a, b, o))
				})
			})
		})
	}
}

// checkDiffers holds Differs against what it must answer.
func checkDiffers(t *testing.T, rows samples.Rows, o api.Ignore, want bool) {
	t.Helper()
	a, b := quietTexts()
	if got := engine.Differs(rows.Changes(), a, b, o); got != want {
		t.Errorf("%+v: differs of %v is %v", o, rows, got)
	}
}

func TestDiffersAtTheEdges(t *testing.T) {
	goes, comes, both := [4]int{0, 1, 0, 0}, [4]int{0, 0, 0, 1}, [4]int{2, 2, 2, 2}
	loud, wrong := [4]int{1, 1, 1, 0}, [4]int{7, 1, 0, 0}
	for _, c := range []struct {
		name string
		rows samples.Rows
		want bool
	}{
		{"no changes", nil, false},
		{"no changes, an empty list", samples.Rows{}, false},
		{"one that is quiet", samples.Rows{goes}, false},
		{"all are quiet", samples.Rows{goes, both, comes}, false},
		{"one that is not", samples.Rows{loud}, true},
		{"the first is not", samples.Rows{loud, goes, both}, true},
		{"one between is not", samples.Rows{goes, loud, both}, true},
		{"the last is not", samples.Rows{goes, both, loud}, true},
		{"none is quiet", samples.Rows{loud, loud}, true},
		{"one names other lines", samples.Rows{goes, wrong}, true},
		{"one changes nothing", samples.Rows{{1, 0, 1, 0}}, false},
	} {
		t.Run(c.name, func(t *testing.T) {
			checkDiffers(t, c.rows, blanks, c.want)
			checkDiffers(t, c.rows, none, len(c.rows) > 0)
		})
	}
}

func TestDiffersOfAllShortLists(t *testing.T) {
	a, b := quietTexts()
	var l []api.Change
	for _, q := range append(quietCases()[:14], wrongCases()[:6]...) {
		l = append(l, q.change())
	}
	for _, o := range []api.Ignore{none, blanks, all} {
		samples.Lists(l, 3, func(l []api.Change) {
			want := false
			for _, c := range l {
				want = want || !quietByWords(c, a, b, o)
			}
			if got := engine.Differs(l, a, b, o); got != want {
				t.Errorf("%+v: differs of %v is %v", o, l, got)
			}
		})
	}
}

// What counts as the same, and blank lines that come and go, make no difference together.
func TestScriptsThatDoNotCount(t *testing.T) {
	o := api.Ignore{Blank: true, Case: true, Trail: true}
	a := []string{"A\n", " \n", "b\n", "c\n", "D\n"}
	b := []string{"a \n", "B\n", "C\t\n", "\n", "\r\n", "d\n", "\f"}
	counting := api.Ignore{Case: true, Trail: true}
	for _, number := range engines() {
		checkSigns(t, number, a, b, o, "=-==++=+")
		script, _ := engine.Diff(number, a, b, o)
		if engine.Differs(script, a, b, o) {
			t.Errorf("engine %d: %v differs", number, script)
		}
		if !engine.Differs(script, a, b, counting) {
			t.Errorf("engine %d: %v does not differ where blank lines count", number, script)
		}
	}
}

// Rule R4.

func TestQuietLeavesListsAlone(t *testing.T) {
	a, b := quietTexts()
	l := samples.Rows{{0, 1, 0, 0}, {2, 4, 2, 4}, {1, 1, 1, 1}}.Changes()
	behind := api.Change{A: 9}
	p, q, r := samples.Spare(a, "behind a"), samples.Spare(b, "behind b"), samples.Spare(l, behind)
	for _, o := range samples.Ignores() {
		engine.Differs(r, p, q, o)
		for _, c := range r {
			engine.Quiet(c, p, q, o)
		}
	}
	if !samples.Left(p, a, "behind a") || !samples.Left(q, b, "behind b") || !samples.Left(r, l, behind) {
		t.Errorf("the lists have become %q, %q and %v", p, q, r)
	}
}

func FuzzQuiet(f *testing.F) {
	f.Add(0, 1, 0, 1, 4, "\n", "x")
	f.Add(1, math.MaxInt, 0, 0, 63, " ", "\t\n")
	f.Add(math.MinInt, -1, math.MaxInt, 1, 5, "", "\r\n")
	f.Fuzz(func(t *testing.T, a, an, b, bn, n int, s, u string) {
		c := api.Change{A: a, AN: an, B: b, BN: bn}
		o := samples.Ignores()[uint(n)%64]
		x, y := []string{s, u, s}, []string{u, s}
		checkQuiet(t, c, x, y, o, quietByWords(c, x, y, o))
	})
}

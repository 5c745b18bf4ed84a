package histogram_test

import (
	"fmt"
	"math"
	"slices"
	"strings"
	"testing"

	"redline/api"
	"redline/edits"
	"redline/histogram"
	"redline/minimal"
	"redline/samples"
)

// told is a list as it is told, of a long one its beginning.
func told(l any) string {
	return fmt.Sprintf("%.200s", fmt.Sprint(l))
}

// checkDiff holds Diff against what it must answer.
func checkDiff(t *testing.T, x, y []int, want []api.Change, code api.Errno) {
	t.Helper()
	l, err := histogram.Diff(x, y)
	if !slices.Equal(l, want) || err != code {
		t.Errorf("diff of %s and %s: %s, %d, want %s, %d", told(x), told(y), told(l), err, told(want), code)
	}
}

// leastByWords is what the least edit script keeps.
func leastByWords(x, y []int) []int {
	script, _ := minimal.Diff(x, y)
	keep, _ := edits.Keep(script, len(x), len(y))
	return keep
}

// keptByWords is what Diff keeps of two pieces, by the chapter's words.
func keptByWords(x, y []int) []int {
	return samples.Framed(x, y, betweenByWords)
}

// betweenByWords is what Diff keeps of two pieces that have neither the first member nor the last one in common.
func betweenByWords(x, y []int) []int {
	if len(x) == 0 || len(y) == 0 {
		return samples.None(len(x))
	}
	r := bestByWords(x, y)
	if r == none() {
		return samples.None(len(x))
	}
	if r.Rare > 64 {
		return leastByWords(x, y)
	}
	behindX, behindY := r.X+r.N, r.Y+r.N
	behind := keptByWords(x[behindX:], y[behindY:])
	return slices.Concat(keptByWords(x[:r.X], y[:r.Y]), samples.Count(r.Y, r.N), samples.Shifted(behind, behindY))
}

// scriptByWords is what Diff answers, by the chapter's words.
func scriptByWords(t *testing.T, x, y []int) []api.Change {
	t.Helper()
	script, err := edits.Make(keptByWords(x, y), len(y))
	if err != api.OK {
		t.Fatalf("%v and %v: what the words keep can't be kept", x, y)
	}
	return script
}

// Promise 8.2.

// textCase is two texts, and what is done with each line.
type textCase samples.Case

// textCases are the edges that the chapter names, behind those of all engines.
func textCases() []textCase {
	var l []textCase
	for _, c := range samples.Plain() {
		l = append(l, textCase(c))
	}
	return append(l, []textCase{
		{"x is y's middle", []int{2, 3}, []int{1, 2, 3, 4}, "+==+"},
		{"y is x's middle", []int{1, 2, 3, 4}, []int{2, 3}, "-==-"},
		{"one run alone", []int{5, 1, 2, 6}, []int{7, 1, 2, 8}, "-+==-+"},
		{"exchanged: x's first", []int{1, 2}, []int{2, 1}, "+=-"},
		{"turned about: x's first", []int{1, 2, 3}, []int{3, 2, 1}, "++=--"},
		{"the longest run is not at the front", []int{1, 2, 3}, []int{2, 3, 1}, "-==+"},
		{"two runs: x's first", []int{1, 2, 3, 4}, []int{3, 4, 1, 2}, "++==--"},
		{"twice in y: y's first", []int{9, 1, 8}, []int{1, 7, 1}, "-=-++"},
		{"twice in x: x's first", []int{1, 7, 1}, []int{9, 1, 8}, "+=--+"},
		{"a rare line outweighs many that are there often", []int{5, 1, 2, 1, 2}, []int{1, 2, 1, 2, 5}, "++++=----"},
		{"rare in x counts, not in y", []int{1, 1, 2}, []int{2, 2, 2, 1}, "--=+++"},
		{"a run has what stands around its rarest line", []int{8, 1, 5, 1, 9}, []int{1, 7, 1, 5, 1, 6}, "-++===-+"},
		{"the longer run outweighs what more runs have", []int{1, 2, 9, 3, 4, 5, 8, 6, 7}, []int{0, 3, 4, 5, 1, 2, 6, 7}, "---+===-++=="},
		{"equal at the front, exchanged behind it", []int{7, 1, 2}, []int{7, 2, 1}, "=+=-"},
		{"equal at the end, exchanged ahead of it", []int{1, 2, 7}, []int{2, 1, 7}, "+=-="},
		{"equal at both ends, exchanged between them", []int{7, 1, 2, 8}, []int{7, 2, 1, 8}, "=+=-="},
		{"rarer, as the front is left out", []int{1, 9, 1, 2}, []int{1, 2, 1, 8}, "=-+=-+"},
		{"rarer, as the end is left out", []int{2, 1, 9, 1}, []int{8, 1, 2, 1}, "++=--="},
		{"ahead of the run nothing of x", []int{9, 1}, []int{2, 9, 3}, "+=-+"},
		{"ahead of the run nothing of y", []int{2, 9, 3}, []int{9, 1}, "-=-+"},
		{"behind the run nothing of x", []int{1, 9}, []int{3, 9, 2}, "-+=+"},
		{"behind the run nothing of y", []int{3, 9, 2}, []int{1, 9}, "-+=-"},
		{"ahead of it nothing of x, behind it nothing of y", []int{9, 1, 2}, []int{3, 9}, "+=--"},
		{"no run ahead, none behind", []int{1, 9, 2}, []int{3, 9, 4}, "-+=-+"},
		{"a run ahead", []int{1, 7, 1, 9, 2}, []int{3, 1, 5, 9, 4}, "+=--+=-+"},
		{"a run behind", []int{2, 9, 1, 7, 1}, []int{4, 9, 3, 1, 5}, "-+=+=--+"},
		{"a run ahead, one behind", []int{1, 7, 1, 9, 2, 8, 2}, []int{3, 1, 5, 9, 6, 2, 4}, "+=--+=+=--+"},
		{"rarer in a piece than in the whole", []int{1, 2, 9, 2, 1}, []int{2, 1, 9, 1, 2}, "+=-=+=-"},
		{"what is ahead in one text and behind in the other is lost", []int{1, 1, 9, 3, 3}, []int{3, 9, 1}, "--+=--+"},
		{"a run within a piece of a piece", []int{7, 1, 8, 2, 7, 9, 8}, []int{3, 7, 8, 4, 9, 5}, "+=-=--+=-+"},
		{"classes below 0", []int{-1, -2, -3}, []int{-2, -1, -3}, "+=-="},
		{"the class 0", []int{0, 1}, []int{1, 0}, "+=-"},
		{"-1 among others", []int{5, -1, 6}, []int{7, 8, -1, 9}, "-++=-+"},
		{"classes as great as an int holds", []int{math.MaxInt, math.MinInt}, []int{math.MinInt, math.MaxInt}, "+=-"},
		{"classes that are the same in their last bits", []int{1, 1 + 1<<32}, []int{1 + 1<<32, 1}, "+=-"},
		{"the chapter's example", []int{1, 2, 1, 3}, []int{1, 3, 1, 2}, "=++=--"},
	}...)
}

func TestDiffAtTheEdges(t *testing.T) {
	for _, c := range textCases() {
		t.Run(c.Name, func(t *testing.T) { checkDiff(t, c.X, c.Y, samples.Script(c.Signs), api.OK) })
	}
}

func TestDiffOfTheChaptersExample(t *testing.T) {
	checkDiff(t, []int{1, 2, 1, 3}, []int{1, 3, 1, 2}, samples.Rows{{1, 0, 1, 2}, {2, 2, 4, 0}}.Changes(), api.OK)
}

func TestDiffOfAllShortTexts(t *testing.T) {
	byWords := func(x, y []int) { checkDiff(t, x, y, scriptByWords(t, x, y), api.OK) }
	samples.Both(2, 6, byWords)
	samples.Both(3, 5, byWords)
	samples.Both(4, 4, byWords)
}

// Longer texts have pieces within pieces.
func TestDiffOfLongerTexts(t *testing.T) {
	byWords := func(x, y []int) { checkDiff(t, x, y, scriptByWords(t, x, y), api.OK) }
	samples.Mixed(20000, 16, byWords)
	samples.Mixed(200, 60, byWords)
}

// Which classes are the same counts alone, not which numbers they have.
func TestDiffOfAnyNumbers(t *testing.T) {
	for _, names := range samples.Odd() {
		samples.Both(3, 4, func(x, y []int) {
			checkDiff(t, samples.Renamed(x, names), samples.Renamed(y, names), scriptByWords(t, x, y), api.OK)
		})
	}
}

// often is two texts whose rarest class stands n times in x: the best run has it alone, the least script keeps many of another class.
func often(n int) (x, y []int) {
	twos := slices.Repeat([]int{2}, n+40)
	return append(slices.Repeat([]int{1}, n), twos...), append(twos, 1)
}

// oftenByRun is what is done with each line of these texts, if the run is kept.
func oftenByRun(n int) string {
	return strings.Repeat("+", n+40) + "=" + strings.Repeat("-", n-1+n+40)
}

// oftenByLeast is what is done with each line of them by the least script.
func oftenByLeast(n int) string {
	return strings.Repeat("-", n) + strings.Repeat("=", n+40) + "+"
}

// rareCases are texts whose best run is as rare as may be, or less.
func rareCases() []textCase {
	x64, y64 := often(64)
	x65, y65 := often(65)
	x40, y40 := often(40)
	run64, least65, run40 := oftenByRun(64), oftenByLeast(65), oftenByRun(40)
	one, mid := []int{1}, []int{9}
	more := slices.Repeat(one, 69)
	return []textCase{
		{"64 times", x64, y64, run64},
		{"65 times", x65, y65, least65},
		{"64 times, in y 70 times", x64, slices.Concat(y64, more), strings.Repeat("+", 104) + strings.Repeat("=", 64) + strings.Repeat("-", 104) + "++++++"},
		{"65 times, in y 70 times", x65, slices.Concat(y65, more), least65 + strings.Repeat("+", 69)},
		{"65 times, 64 as the front is left out", slices.Concat(one, x64), slices.Concat(one, y64), "=" + run64},
		{"66 times, 65 as the front is left out", slices.Concat(one, x65), slices.Concat(one, y65), "=" + least65},
		{"65 times, 64 as the end is left out", slices.Concat(x64, one), slices.Concat(y64, one), run64 + "="},
		{"66 times, 65 as the end is left out", slices.Concat(x65, one), slices.Concat(y65, one), least65 + "="},
		{"80 times, 40 in each piece", slices.Concat(x40, mid, x40), slices.Concat(y40, mid, y40), run40 + "=" + run40},
		{"129 times, 64 ahead of a run, 65 behind it", slices.Concat(x64, mid, x65), slices.Concat(y64, mid, y65), run64 + "=" + least65},
		{"129 times, 65 ahead of a run, 64 behind it", slices.Concat(x65, mid, x64), slices.Concat(y65, mid, y64), least65 + "=" + run64},
		{"130 times, 65 in each piece", slices.Concat(x65, mid, x65), slices.Concat(y65, mid, y65), least65 + "=" + least65},
	}
}

func TestRunsThatAreNotRareGoToTheLeastScript(t *testing.T) {
	for _, c := range rareCases() {
		t.Run(c.Name, func(t *testing.T) { checkDiff(t, c.X, c.Y, samples.Script(c.Signs), api.OK) })
	}
}

// Few classes stand in a piece some 64 times, now more, now fewer, and in the pieces of it ever fewer.
func TestDiffOfFewClasses(t *testing.T) {
	byRun, byLeast := 0, 0
	for classes := 1; classes <= 4; classes++ {
		samples.Mixed(12, classes*100, func(x, y []int) {
			for _, text := range [][]int{x, y} {
				for i := range text {
					text[i] %= classes
				}
			}
			checkDiff(t, x, y, scriptByWords(t, x, y), api.OK)
			if r, ok := histogram.Best(x, y); ok && r.Rare > 64 {
				byLeast++
			} else if ok {
				byRun++
			}
		})
	}
	if byRun < 10 || byLeast < 10 {
		t.Errorf("%d texts by a run, %d by the least script", byRun, byLeast)
	}
}

// The two ways must part in these texts: else they would not show which one was gone.
func TestTheLeastScriptKeepsOthersThanTheRun(t *testing.T) {
	for _, n := range []int{64, 65} {
		x, y := often(n)
		if l, _ := minimal.Diff(x, y); !slices.Equal(l, samples.Script(oftenByLeast(n))) || oftenByLeast(n) == oftenByRun(n) {
			t.Errorf("%d times: the least script is %v", n, l)
		}
	}
}

func TestTooManyMembersAreRefused(t *testing.T) {
	for _, c := range samples.Sizes() {
		for _, from := range []int{0, 1, c.X} { // all of y in x, all but the first, none
			l, err := histogram.Diff(samples.Count(0, c.X), samples.Count(from, c.Y))
			if err != c.Err || err != api.OK && len(l) != 0 {
				t.Errorf("%d and %d members: %s, %d, want %d", c.X, c.Y, told(l), err, c.Err)
			}
		}
	}
}

func TestTheGreatestTexts(t *testing.T) {
	for _, c := range samples.Great() {
		t.Run(c.Name, func(t *testing.T) { checkDiff(t, c.X, c.Y, samples.Script(c.Signs), api.OK) })
	}
}

func TestPiecesWithinPieces(t *testing.T) {
	for _, depth := range []int{0, 1, 2, 3, 10, (api.MaxLines - 1) / 2} {
		c := samples.Nested(depth)
		checkDiff(t, c.X, c.Y, samples.Script(c.Signs), api.OK)
	}
}

// A piece without a rare line goes to minimal, be it as great as may be.
func TestTheGreatestPieceWithNothingRare(t *testing.T) {
	x, y := make([]int, api.MaxLines), make([]int, api.MaxLines)
	for i := range x {
		x[i], y[i] = i%50, (i+25)%50
	}
	want, _ := minimal.Diff(x, y)
	if r, _ := histogram.Best(x, y); r.Rare <= 64 {
		t.Fatalf("best %+v", r)
	}
	checkDiff(t, x, y, want, api.OK)
}

// Promise 8.3.

func TestDiffKeepsPairsOfTheSameClass(t *testing.T) {
	honest := func(x, y []int) {
		if script, err := histogram.Diff(x, y); err != api.OK || !samples.Honest(script, x, y) {
			t.Errorf("diff of %s and %s: %s, %d, which keeps others", told(x), told(y), told(script), err)
		}
	}
	samples.Both(3, 5, honest)
	samples.Both(5, 4, honest)
	samples.Mixed(5000, 40, honest)
	samples.Mixed(20, api.MaxLines, honest)
	for _, c := range rareCases() {
		honest(c.X, c.Y)
	}
}

func TestEqualTextsHaveNoChanges(t *testing.T) {
	same := func(x, _ []int) { checkDiff(t, x, slices.Clone(x), nil, api.OK) }
	samples.Lists(samples.Count(0, 4), 6, func(x []int) { same(x, nil) })
	samples.Mixed(1000, 100, same)
	for _, c := range rareCases() {
		same(c.X, nil)
		same(c.Y, nil)
	}
}

func TestSomethingIsKeptIfSomeClassStandsInBoth(t *testing.T) {
	kept := func(x, y []int) {
		common := slices.ContainsFunc(x, func(class int) bool { return slices.Contains(y, class) })
		script, _ := histogram.Diff(x, y)
		if some := edits.Cost(script) < len(x)+len(y); some != common {
			t.Errorf("diff of %s and %s: %s keeps something: %v, want %v", told(x), told(y), told(script), some, common)
		}
	}
	samples.Both(3, 5, kept)
	samples.Both(5, 4, kept)
	samples.Mixed(5000, 40, kept)
	for _, c := range rareCases() {
		kept(c.X, c.Y)
	}
}

// Rule R4.

func TestDiffLeavesTextsAlone(t *testing.T) {
	for _, c := range append(textCases(), rareCases()...) {
		x, y := samples.Spare(c.X, 99), samples.Spare(c.Y, 99)
		for range 2 {
			checkDiff(t, x, y, samples.Script(c.Signs), api.OK)
		}
		if !samples.Left(x, c.X, 99) || !samples.Left(y, c.Y, 99) {
			t.Errorf("%s: %s and %s have become %s and %s", c.Name, told(c.X), told(c.Y), told(x), told(y))
		}
	}
}

func TestDiffOfTextsThatShareMemory(t *testing.T) {
	all := []int{1, 2, 3, 2, 4}
	checkDiff(t, all, all, nil, api.OK)
	checkDiff(t, all[:4], all[1:], samples.Script("-===+"), api.OK)
	checkDiff(t, all[1:], all[:4], samples.Script("+===-"), api.OK)
}

func TestAnswersAreNewMemory(t *testing.T) {
	change := func(i int) api.Change { return api.Change{A: i} }
	for _, c := range append(textCases(), rareCases()...) {
		script, _ := histogram.Diff(c.X, c.Y)
		another, _ := histogram.Diff(c.X, c.Y)
		if !samples.Apart(change, script, another) {
			t.Errorf("%s: the answers have become %v and %v by changes of one another", c.Name, script, another)
		}
	}
}

func FuzzDiff(f *testing.F) {
	f.Add("", "")
	f.Add("abac", "acab")
	f.Add("abxba", "baxab")
	f.Add("\xff\x00\x80", "\x80\xff")
	f.Fuzz(func(t *testing.T, s, u string) {
		x, y := samples.Classes(s), samples.Classes(u)
		if len(x) > api.MaxLines || len(y) > api.MaxLines {
			checkDiff(t, x, y, nil, api.ErrLong)
			return
		}
		if len(x) > 100 || len(y) > 100 {
			return // the search by the chapter's words would take too long
		}
		checkDiff(t, x, y, scriptByWords(t, x, y), api.OK)
	})
}

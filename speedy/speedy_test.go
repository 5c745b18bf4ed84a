package speedy_test

import (
	"fmt"
	"math"
	"slices"
	"strings"
	"testing"

	"redline/api"
	"redline/edits"
	"redline/minimal"
	"redline/samples"
	"redline/speedy"
)

// told is a list as it is told, of a long one its beginning.
func told(l any) string {
	return fmt.Sprintf("%.200s", fmt.Sprint(l))
}

// checkDiff holds Diff against what it must answer.
func checkDiff(t *testing.T, x, y []int, bound int, want []api.Change, code api.Errno) {
	t.Helper()
	l, err := speedy.Diff(x, y, bound)
	if !slices.Equal(l, want) || err != code {
		t.Errorf("diff of %s and %s, bound %d: %s, %d, want %s, %d", told(x), told(y), bound, told(l), err, told(want), code)
	}
}

// leastByWords is what the least edit script keeps.
func leastByWords(x, y []int) []int {
	script, _ := minimal.Diff(x, y)
	keep, _ := edits.Keep(script, len(x), len(y))
	return keep
}

// scriptByWords is what Diff answers, by the chapter's words.
func scriptByWords(t *testing.T, x, y []int, bound int) []api.Change {
	t.Helper()
	keep := samples.Framed(x, y, func(x, y []int) []int {
		if len(x)*len(y) <= max(0, bound) {
			return leastByWords(x, y)
		}
		return greedyByWords(x, y, 64)
	})
	script, err := edits.Make(keep, len(y))
	if err != api.OK {
		t.Fatalf("%v and %v: what the words keep can't be kept", x, y)
	}
	return script
}

// checkByWords holds Diff against the chapter's words.
func checkByWords(t *testing.T, x, y []int, bound int) {
	t.Helper()
	checkDiff(t, x, y, bound, scriptByWords(t, x, y, bound), api.OK)
}

// left is how many members of x, multiplied with how many of y, stand between equal ones at the front and at the end.
func left(x, y []int) int {
	product := 0
	samples.Framed(x, y, func(x, y []int) []int {
		product = len(x) * len(y)
		return samples.None(len(x))
	})
	return product
}

// extreme is bounds that are no product of texts, or of none but the least.
func extreme() []int {
	return []int{math.MinInt, math.MinInt + 1, -1, 0, 1, math.MaxInt - 1, math.MaxInt}
}

// around is every bound that may matter for two texts.
func around(x, y []int) []int {
	product, all := left(x, y), len(x)*len(y)
	return append(extreme(), product-1, product, product+1, all-1, all, all+1)
}

// textCase is two texts, and what is done with each line.
type textCase samples.Case

// sameCases are texts of which all bounds keep the same.
func sameCases() []textCase {
	var l []textCase
	for _, c := range samples.Plain() {
		l = append(l, textCase(c))
	}
	return append(l, []textCase{
		{"x is y's middle", []int{2, 3}, []int{1, 2, 3, 4}, "+==+"},
		{"y is x's middle", []int{1, 2, 3, 4}, []int{2, 3}, "-==-"},
		{"one run alone", []int{5, 1, 2, 6}, []int{7, 1, 2, 8}, "-+==-+"},
		{"one that is not there between two that are kept", []int{9, 1, 5, 2, 9}, []int{8, 1, 6, 2, 8}, "-+=-+=-+"},
		{"classes below 0", []int{-1, -2, -5}, []int{-3, -2, -4}, "-+=-+"},
		{"the class -1", []int{5, -1, 6}, []int{7, 8, -1, 9}, "-++=-+"},
		{"classes that are the same in their last bits", []int{1, 1 + 1<<32}, []int{1 << 32, 1 + 1<<32}, "-+="},
	}...)
}

// bounded is two texts, a bound, and what is done with each line.
type bounded struct {
	name  string
	x, y  []int
	bound int
	signs string
}

// boundCases are the edges that the chapter names for bounds: the least script of these texts keeps more than Greedy does.
func boundCases() []bounded {
	x, y := []int{1, 2, 3}, []int{2, 3, 1}
	front, end := []int{7, 6}, []int{8, 6, 9}
	between := func(l []int) []int { return slices.Concat(front, l, end) }
	wide, high := []int{2, 3, 4, 1}, []int{1, 5, 2, 3}
	least, greedy := "-==+", "++=--"
	return []bounded{
		{"the chapter's example, bound 9", x, y, 9, least},
		{"the chapter's example, bound 8", x, y, 8, greedy},
		{"one more", x, y, 10, least},
		{"bound 0", x, y, 0, greedy},
		{"bound 1", x, y, 1, greedy},
		{"bound below 0", x, y, -1, greedy},
		{"far below 0", x, y, -9, greedy},
		{"as small as an int holds", x, y, math.MinInt, greedy},
		{"as great as an int holds", x, y, math.MaxInt, least},
		{"more in y, just the product", x, wide, 12, "-==++"},
		{"more in y, one less", x, wide, 11, "+++=--"},
		{"more in x, just the product", high, y, 12, "--==+"},
		{"more in x, one less", high, y, 11, "++=---"},
		{"equal at the front, just what is left", slices.Concat(front, x), slices.Concat(front, y), 9, "==" + least},
		{"equal at the front, one less", slices.Concat(front, x), slices.Concat(front, y), 8, "==" + greedy},
		{"equal at the front, all", slices.Concat(front, x), slices.Concat(front, y), 25, "==" + least},
		{"equal at the end, just what is left", slices.Concat(x, end), slices.Concat(y, end), 9, least + "==="},
		{"equal at the end, one less", slices.Concat(x, end), slices.Concat(y, end), 8, greedy + "==="},
		{"equal at the end, all", slices.Concat(x, end), slices.Concat(y, end), 36, least + "==="},
		{"equal at both, just what is left", between(x), between(y), 9, "==" + least + "==="},
		{"equal at both, one more", between(x), between(y), 10, "==" + least + "==="},
		{"equal at both, one less", between(x), between(y), 8, "==" + greedy + "==="},
		{"equal at both, all", between(x), between(y), 64, "==" + least + "==="},
		{"equal at both, one less than all", between(x), between(y), 63, "==" + least + "==="},
		{"equal at both, bound below 0", between(x), between(y), -1, "==" + greedy + "==="},
		{"one member each is left, bound 0", between([]int{1}), between([]int{2}), 0, "==-+==="},
		{"nothing of x is left, bound 0", between(nil), between(y), 0, "==+++==="},
		{"nothing of y is left, bound below 0", between(x), between(nil), -1, "==---==="},
		{"front and end would meet", []int{1, 2, 1}, []int{1, 2, 1, 2, 1}, 0, "===++"},
		{"classes as great as an int holds, the product", []int{math.MaxInt, math.MinInt, 0}, []int{math.MinInt, 0, math.MaxInt}, 9, least},
		{"classes as great as an int holds, one less", []int{math.MaxInt, math.MinInt, 0}, []int{math.MinInt, 0, math.MaxInt}, 8, greedy},
	}
}

// farCases are texts of which a line is kept as far off as Greedy may look, and of which one is not, as it is further off by one.
func farCases() []bounded {
	f63, f64 := slices.Repeat([]int{0}, 63), slices.Repeat([]int{0}, 64)
	p63, p64 := strings.Repeat("+", 63), strings.Repeat("+", 64)
	lone, one := []int{1, 5}, []int{1, 6}
	front, end := []int{7, 7, 7}, []int{8, 8}
	behindX, behindY := []int{9, 2, 1, 5}, []int{2}
	return []bounded{
		{"63 behind the first place", lone, slices.Concat(f63, one), 0, p63 + "=-+"},
		{"64 behind the first place", lone, slices.Concat(f64, one), 0, "--" + p64 + "++"},
		{"64 behind it, within the bound", lone, slices.Concat(f64, one), 2 * 66, p64 + "=-+"},
		{"64 behind it, the bound just missed", lone, slices.Concat(f64, one), 2*66 - 1, "--" + p64 + "++"},
		{"63 behind a place", behindX, slices.Concat(behindY, f63, one), 0, "-=" + p63 + "=-+"},
		{"64 behind a place", behindX, slices.Concat(behindY, f64, one), 0, "-=--" + p64 + "++"},
		{"63 behind the equal front", slices.Concat(front, lone), slices.Concat(front, f63, one), 0, "===" + p63 + "=-+"},
		{"64 behind the equal front", slices.Concat(front, lone), slices.Concat(front, f64, one), 0, "===--" + p64 + "++"},
		{"63 behind, an equal end", slices.Concat(lone, end), slices.Concat(f63, one, end), 0, p63 + "=-+=="},
		{"64 behind, an equal end", slices.Concat(lone, end), slices.Concat(f64, one, end), 0, "--" + p64 + "++=="},
		{"the last of what is left", slices.Concat([]int{1}, end, []int{5}), slices.Concat(f63, []int{1}), 0, p63 + "=---"},
		{"the equal end is not found again", []int{8, 5, 8}, []int{1, 2, 8}, 0, "--++="},
	}
}

// Promise 9.2.

func TestAllBoundsKeepTheSame(t *testing.T) {
	for _, c := range sameCases() {
		t.Run(c.Name, func(t *testing.T) {
			for _, bound := range around(c.X, c.Y) {
				checkDiff(t, c.X, c.Y, bound, samples.Script(c.Signs), api.OK)
			}
		})
	}
}

func TestDiffAtTheEdges(t *testing.T) {
	for _, c := range append(boundCases(), farCases()...) {
		t.Run(c.name, func(t *testing.T) { checkDiff(t, c.x, c.y, c.bound, samples.Script(c.signs), api.OK) })
	}
}

func TestDiffOfTheChaptersExample(t *testing.T) {
	x, y := []int{1, 2, 3}, []int{2, 3, 1}
	checkDiff(t, x, y, 9, samples.Rows{{0, 1, 0, 0}, {3, 0, 2, 1}}.Changes(), api.OK)
	checkDiff(t, x, y, 8, samples.Rows{{0, 0, 0, 2}, {1, 2, 3, 0}}.Changes(), api.OK)
}

func TestDiffOfAllShortTexts(t *testing.T) {
	byWords := func(x, y []int) {
		for _, bound := range around(x, y) {
			checkByWords(t, x, y, bound)
		}
	}
	samples.Both(2, 5, byWords)
	samples.Both(3, 4, byWords)
}

func TestDiffForAllBounds(t *testing.T) {
	samples.Both(2, 4, func(x, y []int) {
		for bound := -2; bound <= 18; bound++ {
			checkByWords(t, x, y, bound)
		}
	})
}

// In longer texts places are further off than Greedy may look.
func TestDiffOfLongerTexts(t *testing.T) {
	part := 0
	byWords := func(x, y []int) {
		product := left(x, y)
		for _, bound := range []int{0, product - 1, product} {
			checkByWords(t, x, y, bound)
		}
		if !slices.Equal(greedyByWords(x, y, 64), greedyByWords(x, y, 65)) {
			part++
		}
	}
	samples.Mixed(5000, 16, byWords)
	samples.Mixed(1000, 300, byWords)
	if part < 20 {
		t.Errorf("in %d texts it counts how far Greedy may look", part)
	}
}

// Which classes are the same counts alone, not which numbers they have.
func TestDiffOfAnyNumbers(t *testing.T) {
	for _, names := range samples.Odd() {
		samples.Both(3, 4, func(x, y []int) {
			for _, bound := range []int{0, 16} {
				checkDiff(t, samples.Renamed(x, names), samples.Renamed(y, names), bound, scriptByWords(t, x, y, bound), api.OK)
			}
		})
	}
}

func TestTooManyMembersAreRefused(t *testing.T) {
	for _, c := range samples.Sizes() {
		x := samples.Count(0, c.X)
		for _, from := range []int{0, 1, c.X} { // all of y in x, all but the first, none
			y := samples.Count(from, c.Y)
			for _, bound := range []int{math.MinInt, -1, 0, 4096, math.MaxInt} {
				l, err := speedy.Diff(x, y, bound)
				if err != c.Err || err != api.OK && len(l) != 0 {
					t.Errorf("%d and %d members, bound %d: %s, %d, want %d", c.X, c.Y, bound, told(l), err, c.Err)
				}
			}
		}
	}
}

// greatCases are texts as long as may be.
func greatCases() []bounded {
	const most, half, product = api.MaxLines, api.MaxLines / 2, api.MaxLines * api.MaxLines
	all := samples.Count(0, most)
	moved, turned := slices.Concat(all[1:], all[:1]), samples.Turned(all)
	swapped := slices.Concat(all[half:], all[:half])
	same, goes, comes := strings.Repeat("=", most), strings.Repeat("-", most), strings.Repeat("+", most)
	byGreedy := goes[64:] + comes[:63] + "=" + goes[:63] + comes[64:]
	return []bounded{
		{"the same, bound 0", all, all, 0, same},
		{"nothing in common, bound 0", all, samples.Count(most, most), 0, goes + comes},
		{"nothing in common, just the product", all, samples.Count(most, most), product, goes + comes},
		{"the first has gone to the end, bound 0", all, moved, 0, "-" + same[1:] + "+"},
		{"the first has gone to the end, just the product", all, moved, product, "-" + same[1:] + "+"},
		{"halves exchanged, bound 0", all, swapped, 0, goes[half:] + same[half:] + comes[half:]},
		{"turned about, bound 0", all, turned, 0, byGreedy},
		{"turned about, one less than the product", all, turned, product - 1, byGreedy},
		{"one of many, bound 0", slices.Repeat([]int{1}, most), []int{1}, 0, "=" + goes[1:]},
	}
}

func TestTheGreatestTexts(t *testing.T) {
	for _, c := range greatCases() {
		t.Run(c.name, func(t *testing.T) { checkDiff(t, c.x, c.y, c.bound, samples.Script(c.signs), api.OK) })
	}
	all := samples.Count(0, api.MaxLines)
	turned := samples.Turned(all)
	want, _ := minimal.Diff(all, turned)
	checkDiff(t, all, turned, api.MaxLines*api.MaxLines, want, api.OK)
	checkDiff(t, all, turned, math.MaxInt, want, api.OK)
}

// Promise 9.3.

func TestDiffKeepsPairsOfTheSameClass(t *testing.T) {
	honest := func(x, y []int) {
		for _, bound := range []int{-1, 0, 10, 100, 4096, math.MaxInt} {
			if script, err := speedy.Diff(x, y, bound); err != api.OK || !samples.Honest(script, x, y) {
				t.Errorf("diff of %s and %s, bound %d: %s, %d, which keeps others", told(x), told(y), bound, told(script), err)
			}
		}
	}
	samples.Both(3, 4, honest)
	samples.Both(4, 3, honest)
	samples.Mixed(2000, 40, honest)
	samples.Mixed(5, api.MaxLines, honest)
	for _, c := range farCases() {
		honest(c.x, c.y)
	}
}

func TestEqualTextsHaveNoChanges(t *testing.T) {
	same := func(x, _ []int) {
		for _, bound := range append(extreme(), len(x)*len(x)) {
			checkDiff(t, x, slices.Clone(x), bound, nil, api.OK)
		}
	}
	samples.Lists(samples.Count(0, 4), 5, func(x []int) { same(x, nil) })
	samples.Mixed(1000, 100, same)
}

func TestWithinTheBoundNoScriptKeepsMore(t *testing.T) {
	most := func(x, y []int) {
		all := len(x) * len(y)
		longest, _ := minimal.Length(x, y)
		for _, bound := range []int{all, all + 1, math.MaxInt} {
			script, err := speedy.Diff(x, y, bound)
			if kept := (len(x) + len(y) - edits.Cost(script)) / 2; err != api.OK || kept != longest {
				t.Errorf("diff of %s and %s, bound %d: %s, %d keeps %d members, want %d", told(x), told(y), bound, told(script), err, kept, longest)
			}
		}
	}
	samples.Both(2, 6, most)
	samples.Both(3, 5, most)
	samples.Mixed(2000, 40, most)
	samples.Mixed(5, 1000, most)
}

// Rule R4.

func TestDiffLeavesTextsAlone(t *testing.T) {
	for _, c := range append(boundCases(), farCases()...) {
		x, y := samples.Spare(c.x, 99), samples.Spare(c.y, 99)
		for range 2 {
			checkDiff(t, x, y, c.bound, samples.Script(c.signs), api.OK)
		}
		if !samples.Left(x, c.x, 99) || !samples.Left(y, c.y, 99) {
			t.Errorf("%s: %s and %s have become %s and %s", c.name, told(c.x), told(c.y), told(x), told(y))
		}
	}
}

func TestDiffOfTextsThatShareMemory(t *testing.T) {
	all := []int{1, 2, 3, 2, 4}
	for _, bound := range []int{0, 25} {
		checkDiff(t, all, all, bound, nil, api.OK)
		checkDiff(t, all[:4], all[1:], bound, samples.Script("-===+"), api.OK)
		checkDiff(t, all[1:], all[:4], bound, samples.Script("+===-"), api.OK)
	}
}

func TestDiffAnswersNewMemory(t *testing.T) {
	change := func(i int) api.Change { return api.Change{A: i} }
	for _, c := range append(boundCases(), farCases()...) {
		script, _ := speedy.Diff(c.x, c.y, c.bound)
		another, _ := speedy.Diff(c.x, c.y, c.bound)
		if !samples.Apart(change, script, another) {
			t.Errorf("%s: the answers have become %v and %v by changes of one another", c.name, script, another)
		}
	}
}

func FuzzDiff(f *testing.F) {
	f.Add("", "", 0)
	f.Add("abc", "bca", 9)
	f.Add("abc", "bca", 8)
	f.Add("xabcy", "xbcay", math.MaxInt)
	f.Add("\xff\x00\x80", "\x80\xff", math.MinInt)
	f.Fuzz(func(t *testing.T, s, u string, bound int) {
		x, y := samples.Classes(s), samples.Classes(u)
		if len(x) > api.MaxLines || len(y) > api.MaxLines {
			checkDiff(t, x, y, bound, nil, api.ErrLong)
			return
		}
		if len(x) > 500 || len(y) > 500 {
			return // the search by the chapter's words would take too long
		}
		checkByWords(t, x, y, bound)
	})
}

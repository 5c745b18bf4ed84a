package patience_test

import (
	"fmt"
	"math"
	"slices"
	"testing"

	"redline/api"
	"redline/edits"
	"redline/minimal"
	"redline/patience"
	"redline/samples"
)

// pairs is pairs out of numbers, X and Y in turn.
func pairs(numbers ...int) []patience.Pair {
	var l []patience.Pair
	for p := range slices.Chunk(numbers, 2) {
		l = append(l, patience.Pair{X: p[0], Y: p[1]})
	}
	return l
}

// told is a list as it is told, of a long one its beginning.
func told(l any) string {
	return fmt.Sprintf("%.200s", fmt.Sprint(l))
}

// checkUnique holds Unique against what it must answer.
func checkUnique(t *testing.T, x, y []int, want []patience.Pair) {
	t.Helper()
	if l := patience.Unique(x, y); !slices.Equal(l, want) {
		t.Errorf("unique of %s and %s: %s, want %s", told(x), told(y), told(l), told(want))
	}
}

// checkDiff holds Diff against what it must answer.
func checkDiff(t *testing.T, x, y []int, want []api.Change, code api.Errno) {
	t.Helper()
	l, err := patience.Diff(x, y)
	if !slices.Equal(l, want) || err != code {
		t.Errorf("diff of %s and %s: %s, %d, want %s, %d", told(x), told(y), told(l), err, told(want), code)
	}
}

// times is how often a class stands in a text.
func times(text []int, class int) int {
	n := 0
	for _, member := range text {
		if member == class {
			n++
		}
	}
	return n
}

// uniqueByWords is Unique by the chapter's words.
func uniqueByWords(x, y []int) []patience.Pair {
	var l []patience.Pair
	for i, class := range x {
		if times(x, class) == 1 && times(y, class) == 1 {
			l = append(l, patience.Pair{X: i, Y: slices.Index(y, class)})
		}
	}
	return l
}

// keptByWords is what Diff keeps of two pieces, by the chapter's words.
func keptByWords(x, y []int) []int {
	return samples.Framed(x, y, betweenByWords)
}

// betweenByWords is what Diff keeps of two pieces that have neither the first member nor the last one in common.
func betweenByWords(x, y []int) []int {
	if len(x) == 0 || len(y) == 0 {
		return samples.None(len(x))
	}
	row := longestByLengths(uniqueByWords(x, y))
	if len(row) == 0 {
		script, _ := minimal.Diff(x, y)
		keep, _ := edits.Keep(script, len(x), len(y))
		return keep
	}
	var keep []int
	i, j := 0, 0
	for _, p := range row {
		keep = append(keep, samples.Shifted(keptByWords(x[i:p.X], y[j:p.Y]), j)...)
		keep = append(keep, p.Y)
		i, j = p.X+1, p.Y+1
	}
	return append(keep, samples.Shifted(keptByWords(x[i:], y[j:]), j)...)
}

// scriptByWords is what Diff answers, by the chapter's words.
func scriptByWords(t *testing.T, x, y []int) []api.Change {
	t.Helper()
	keep := keptByWords(x, y)
	script, err := edits.Make(keep, len(y))
	if err != api.OK || len(keep) != len(x) {
		t.Fatalf("%v and %v: %v can't be kept", x, y, keep)
	}
	return script
}

// Promise 7.1.

func TestUniqueAtTheEdges(t *testing.T) {
	for _, c := range []struct {
		name string
		x, y []int
		want []patience.Pair
	}{
		{"no members", nil, nil, nil},
		{"no members, empty lists", []int{}, []int{}, nil},
		{"none in x", nil, []int{1, 2}, nil},
		{"none in y", []int{1, 2}, nil, nil},
		{"the same, one member", []int{7}, []int{7}, pairs(0, 0)},
		{"the same", []int{1, 2, 3}, []int{1, 2, 3}, pairs(0, 0, 1, 1, 2, 2)},
		{"the same, with one that is there several times", []int{1, 2, 1, 3}, []int{1, 2, 1, 3}, pairs(1, 1, 3, 3)},
		{"nothing in common", []int{1, 2}, []int{3, 4}, nil},
		{"once in x, twice in y", []int{1}, []int{1, 1}, nil},
		{"once in x, three times in y", []int{1}, []int{1, 2, 1, 1}, nil},
		{"twice in x, once in y", []int{1, 1}, []int{1}, nil},
		{"three times in x, once in y", []int{1, 1, 2, 1}, []int{1}, nil},
		{"twice in x, none in y", []int{1, 1, 2}, []int{2}, pairs(2, 0)},
		{"twice in both", []int{1, 1}, []int{1, 1}, nil},
		{"three times in both", []int{1, 1, 1}, []int{1, 1, 1}, nil},
		{"three times in x, twice in y", []int{1, 2, 1, 1}, []int{1, 1, 2}, pairs(1, 2)},
		{"once in both, turned about", []int{1, 2, 3}, []int{3, 2, 1}, pairs(0, 2, 1, 1, 2, 0)},
		{"once in both, far apart", []int{1, 2, 2, 2}, []int{3, 3, 3, 1}, pairs(0, 3)},
		{"great classes ahead of small ones", []int{9, 5, 1, 7}, []int{1, 5, 7, 9}, pairs(0, 3, 1, 1, 2, 0, 3, 2)},
		{"all of these at once", []int{1, 2, 3, 4, 4, 5, 5, 6}, []int{6, 1, 3, 3, 4, 5, 5, 7}, pairs(0, 1, 7, 0)},
		{"the class 0", []int{1, 0}, []int{0, 2}, pairs(1, 0)},
		{"the class 0, twice in x", []int{0, 0}, []int{0}, nil},
		{"the class 0, twice in y", []int{0}, []int{0, 0}, nil},
		{"the class 0, in x alone", []int{0}, []int{1}, nil},
		{"the class 0, in y alone", []int{1}, []int{0}, nil},
		{"the class -1", []int{5, -1}, []int{-1, 6}, pairs(1, 0)},
		{"the class -1, twice in x", []int{-1, -1}, []int{-1}, nil},
		{"a class and its opposite", []int{1}, []int{-1}, nil},
		{"classes as great as an int holds", []int{math.MaxInt, math.MinInt}, []int{math.MinInt, math.MaxInt}, pairs(0, 1, 1, 0)},
		{"classes that are the same in their last bits", []int{1, 1 + 1<<32}, []int{1 + 1<<32}, pairs(1, 0)},
		{"the chapter's example", []int{1, 2, 1, 3}, []int{3, 2, 4}, pairs(1, 1, 3, 0)},
	} {
		t.Run(c.name, func(t *testing.T) { checkUnique(t, c.x, c.y, c.want) })
	}
}

func TestUniqueOfAllShortTexts(t *testing.T) {
	samples.Both(3, 5, func(x, y []int) { checkUnique(t, x, y, uniqueByWords(x, y)) })
	samples.Both(5, 3, func(x, y []int) { checkUnique(t, x, y, uniqueByWords(x, y)) })
}

func TestUniqueHasNoLimit(t *testing.T) {
	const many = 1 << 18
	x := samples.Count(0, many)
	var back []patience.Pair
	for i := range many {
		back = append(back, patience.Pair{X: i, Y: many - 1 - i})
	}
	checkUnique(t, x, samples.Turned(x), back)
	checkUnique(t, append(slices.Clone(x), x...), x, nil)
	checkUnique(t, x, append(slices.Clone(x), x[1:]...), pairs(0, 0))
}

// Promise 7.3.

// textCase is two texts, and what is done with each line.
type textCase samples.Case

// textCases are the edges that the chapter names, behind those of all engines.
func textCases() []textCase {
	var l []textCase
	for _, c := range samples.Plain() {
		l = append(l, textCase(c))
	}
	return append(l, []textCase{
		{"x is y's middle", []int{2, 3}, []int{1, 2, 3, 4}, "+==+"},
		{"y is x's middle", []int{1, 2, 3, 4}, []int{2, 3}, "-==-"},
		{"once in both, in one order", []int{5, 1, 6, 2, 7}, []int{8, 1, 9, 2, 0}, "-+=-+=-+"},
		{"once in both, exchanged: x's first", []int{1, 2}, []int{2, 1}, "+=-"},
		{"once in both, turned about: x's first", []int{1, 2, 3}, []int{3, 2, 1}, "++=--"},
		{"once in both, the longest row not at the front", []int{1, 2, 3}, []int{2, 3, 1}, "-==+"},
		{"once in both, two rows: x's first", []int{1, 2, 3, 4}, []int{3, 4, 1, 2}, "++==--"},
		{"a line that is there once outweighs many that are there often", []int{5, 1, 2, 1, 2}, []int{1, 2, 1, 2, 5}, "++++=----"},
		{"once in x, several times in y", []int{9, 1, 8}, []int{1, 7, 1}, "-=-++"},
		{"several times in x, once in y", []int{1, 7, 1}, []int{9, 1, 8}, "--+=+"},
		{"several times in both", []int{1, 2, 1, 2}, []int{2, 1, 2, 1}, "-===+"},
		{"several times in both: x's goes first", []int{1, 1, 2, 2}, []int{2, 2, 1, 1}, "--==++"},
		{"nothing that is there once, behind an equal front", []int{7, 1, 1, 2, 2}, []int{7, 2, 2, 1, 1}, "=--==++"},
		{"nothing that is there once, ahead of an equal end", []int{1, 1, 2, 2, 7}, []int{2, 2, 1, 1, 7}, "--==++="},
		{"equal at the front, exchanged behind it", []int{7, 1, 2}, []int{7, 2, 1}, "=+=-"},
		{"equal at the end, exchanged ahead of it", []int{1, 2, 7}, []int{2, 1, 7}, "+=-="},
		{"once in both, as the front is left out", []int{1, 9, 1, 2}, []int{1, 2, 1, 8}, "=-+=-+"},
		{"once in both, as the end is left out", []int{2, 1, 9, 1}, []int{8, 1, 2, 1}, "++=--="},
		{"nothing that is there once, ahead of a pair", []int{1, 2, 1, 9, 5}, []int{2, 1, 2, 9, 6}, "-==+=-+"},
		{"nothing that is there once, between two pairs", []int{4, 8, 1, 2, 1, 9, 5}, []int{6, 8, 2, 1, 2, 9, 7}, "-+=-==+=-+"},
		{"nothing that is there once, behind a pair", []int{4, 9, 1, 2, 1}, []int{6, 9, 2, 1, 2}, "-+=-==+"},
		{"nothing that is there once, on all sides of pairs", []int{1, 2, 1, 8, 1, 2, 1, 9, 1, 2, 1}, []int{2, 1, 2, 8, 2, 1, 2, 9, 2, 1, 2}, "-==+=-==+=-==+"},
		{"once in a piece alone, ahead of a pair", []int{1, 2, 9, 1, 5}, []int{2, 1, 9, 2, 6}, "+=-=--++"},
		{"once in a piece alone, behind a pair", []int{1, 9, 1, 2}, []int{2, 9, 2, 1}, "-+=+=-"},
		{"once in pieces alone", []int{1, 2, 9, 2, 1}, []int{2, 1, 9, 1, 2}, "+=-=+=-"},
		{"once in a piece alone, between two pairs", []int{1, 8, 1, 2, 9, 2, 1}, []int{2, 8, 2, 1, 9, 1, 2}, "-+=+=-=+=-"},
		{"once in a piece of a piece alone", []int{7, 1, 8, 2, 7, 9, 8}, []int{3, 7, 8, 4, 9, 5}, "+=-=--+=-+"},
		{"the end of a piece ahead of a pair, the front of one behind it", []int{1, 2, 9, 1, 2, 5}, []int{2, 2, 9, 1, 1, 6}, "-+===--++"},
		{"front and end of a piece between two pairs", []int{4, 9, 1, 5, 1, 8, 6}, []int{7, 9, 1, 2, 3, 1, 8, 0}, "-+==-++==-+"},
		{"front and end of a piece between two pairs would meet", []int{4, 9, 1, 1, 8, 6}, []int{7, 9, 1, 1, 1, 8, 0}, "-+===+=-+"},
		{"pairs side by side", []int{5, 1, 2, 3, 6}, []int{7, 1, 2, 3, 8}, "-+===-+"},
		{"pairs side by side in x alone", []int{5, 1, 2, 6}, []int{7, 1, 8, 2, 9}, "-+=+=-+"},
		{"pairs side by side in y alone", []int{5, 1, 8, 2, 6}, []int{7, 1, 2, 9}, "-+=-=-+"},
		{"the first of all makes a pair", []int{1, 2, 5}, []int{6, 1, 7}, "+=--+"},
		{"the last of all makes a pair", []int{5, 2, 1}, []int{6, 1, 7}, "--+=+"},
		{"classes below 0", []int{-1, -2, -3}, []int{-2, -1, -3}, "+=-="},
		{"the class 0", []int{0, 1}, []int{1, 0}, "+=-"},
		{"-1 among others", []int{5, -1, 6}, []int{7, 8, -1, 9}, "-++=-+"},
		{"classes as great as an int holds", []int{math.MaxInt, math.MinInt}, []int{math.MinInt, math.MaxInt}, "+=-"},
		{"classes that are the same in their last bits", []int{1, 1 + 1<<32}, []int{1 + 1<<32, 1}, "+=-"},
		{"the chapter's example", []int{1, 2, 1, 3}, []int{3, 2, 4}, "-+=--+"},
	}...)
}

func TestDiffAtTheEdges(t *testing.T) {
	for _, c := range textCases() {
		t.Run(c.Name, func(t *testing.T) { checkDiff(t, c.X, c.Y, samples.Script(c.Signs), api.OK) })
	}
}

func TestDiffOfTheChaptersExample(t *testing.T) {
	checkDiff(t, []int{1, 2, 1, 3}, []int{3, 2, 4}, samples.Rows{{0, 1, 0, 1}, {2, 2, 2, 1}}.Changes(), api.OK)
}

func TestDiffOfAllShortTexts(t *testing.T) {
	byWords := func(x, y []int) { checkDiff(t, x, y, scriptByWords(t, x, y), api.OK) }
	samples.Both(2, 6, byWords)
	samples.Both(3, 5, byWords)
	samples.Both(5, 4, byWords)
}

// Longer texts have pieces within pieces.
func TestDiffOfLongerTexts(t *testing.T) {
	byWords := func(x, y []int) { checkDiff(t, x, y, scriptByWords(t, x, y), api.OK) }
	samples.Mixed(20000, 16, byWords)
	samples.Mixed(500, 60, byWords)
}

// Which classes are the same counts alone, not which numbers they have.
func TestClassesMayBeAnyNumbers(t *testing.T) {
	for _, names := range samples.Odd() {
		samples.Both(3, 4, func(x, y []int) {
			checkUnique(t, samples.Renamed(x, names), samples.Renamed(y, names), uniqueByWords(x, y))
			checkDiff(t, samples.Renamed(x, names), samples.Renamed(y, names), scriptByWords(t, x, y), api.OK)
		})
	}
}

func TestTooManyMembersAreRefused(t *testing.T) {
	for _, c := range samples.Sizes() {
		for _, from := range []int{0, 1, c.X} { // all of y in x, all but the first, none
			l, err := patience.Diff(samples.Count(0, c.X), samples.Count(from, c.Y))
			if err != c.Err || err != api.OK && len(l) != 0 {
				t.Errorf("%d and %d members: %s, %d, want %d", c.X, c.Y, told(l), err, c.Err)
			}
		}
	}
}

func TestPiecesWithinPieces(t *testing.T) {
	for _, depth := range []int{0, 1, 2, 3, 10, (api.MaxLines - 1) / 2} {
		c := samples.Nested(depth)
		checkDiff(t, c.X, c.Y, samples.Script(c.Signs), api.OK)
	}
}

func TestTheGreatestTexts(t *testing.T) {
	for _, c := range samples.Great() {
		t.Run(c.Name, func(t *testing.T) { checkDiff(t, c.X, c.Y, samples.Script(c.Signs), api.OK) })
	}
}

// A piece without a line that is there once goes to minimal, be it as great as may be.
func TestTheGreatestPieceWithNothingThatIsThereOnce(t *testing.T) {
	x, y := make([]int, api.MaxLines), make([]int, api.MaxLines)
	for i := range x {
		x[i], y[i] = i*i%11, (i*i*i+1)%13
	}
	x[0], x[len(x)-1] = 5, 5
	y[0], y[len(y)-1] = 8, 8
	want, _ := minimal.Diff(x, y)
	checkUnique(t, x, y, nil)
	checkDiff(t, x, y, want, api.OK)
}

// Promise 7.4.

func TestDiffKeepsPairsOfTheSameClass(t *testing.T) {
	honest := func(x, y []int) {
		if script, err := patience.Diff(x, y); err != api.OK || !samples.Honest(script, x, y) {
			t.Errorf("diff of %v and %v: %v, %d, which keeps others", x, y, script, err)
		}
	}
	samples.Both(3, 5, honest)
	samples.Both(5, 4, honest)
	samples.Mixed(5000, 40, honest)
}

func TestEqualTextsHaveNoChanges(t *testing.T) {
	samples.Lists(samples.Count(0, 4), 6, func(x []int) { checkDiff(t, x, slices.Clone(x), nil, api.OK) })
	samples.Mixed(1000, 100, func(x, _ []int) { checkDiff(t, x, slices.Clone(x), nil, api.OK) })
}

// inOneOrder tells whether the last promise speaks of two texts, and what of them must be kept.
func inOneOrder(x, y []int) ([]patience.Pair, bool) {
	if len(x) == 0 || len(y) == 0 || x[0] == y[0] || x[len(x)-1] == y[len(y)-1] {
		return nil, false
	}
	once := uniqueByWords(x, y)
	return once, slices.IsSortedFunc(once, func(p, q patience.Pair) int { return p.Y - q.Y })
}

func TestLinesThatAreThereOnceInOneOrderAreKept(t *testing.T) {
	spoken := 0
	hold := func(x, y []int) {
		once, ok := inOneOrder(x, y)
		if !ok {
			return
		}
		script, _ := patience.Diff(x, y)
		keep, _ := edits.Keep(script, len(x), len(y))
		for _, p := range once {
			spoken++
			if keep[p.X] != p.Y {
				t.Errorf("diff of %v and %v: %v does not keep %v", x, y, script, p)
			}
		}
	}
	samples.Both(3, 5, hold)
	samples.Both(5, 4, hold)
	samples.Mixed(20000, 12, hold)
	if spoken < 1000 {
		t.Errorf("only %d lines were held against the promise", spoken)
	}
}

// Rule R4.

func TestTextsAreLeftAlone(t *testing.T) {
	for _, c := range textCases() {
		x, y := samples.Spare(c.X, 99), samples.Spare(c.Y, 99)
		for range 2 {
			checkUnique(t, x, y, uniqueByWords(c.X, c.Y))
			checkDiff(t, x, y, samples.Script(c.Signs), api.OK)
		}
		if !samples.Left(x, c.X, 99) || !samples.Left(y, c.Y, 99) {
			t.Errorf("%v and %v have become %v and %v", c.X, c.Y, x[:len(x)+1], y[:len(y)+1])
		}
	}
}

func TestTextsMayShareMemory(t *testing.T) {
	all := []int{1, 2, 3, 2, 4}
	checkUnique(t, all, all, pairs(0, 0, 2, 2, 4, 4))
	checkUnique(t, all[:3], all[1:], pairs(2, 1))
	checkDiff(t, all, all, nil, api.OK)
	checkDiff(t, all[:4], all[1:], samples.Script("-===+"), api.OK)
	checkDiff(t, all[1:], all[:4], samples.Script("+===-"), api.OK)
}

func TestAnswersAreNewMemory(t *testing.T) {
	pair := func(i int) patience.Pair { return patience.Pair{X: i, Y: -i} }
	change := func(i int) api.Change { return api.Change{A: i} }
	for _, c := range textCases() {
		l, again := patience.Unique(c.X, c.Y), patience.Unique(c.X, c.Y)
		if !samples.Apart(pair, l, again) {
			t.Errorf("unique of %v and %v: the answers have become %v and %v by changes of one another", c.X, c.Y, l, again)
		}
		script, _ := patience.Diff(c.X, c.Y)
		another, _ := patience.Diff(c.X, c.Y)
		if !samples.Apart(change, script, another) {
			t.Errorf("diff of %v and %v: the answers have become %v and %v by changes of one another", c.X, c.Y, script, another)
		}
	}
}

func FuzzAnyTexts(f *testing.F) {
	f.Add("", "")
	f.Add("abac", "cbd")
	f.Add("abxba", "baxab")
	f.Add("\xff\x00\x80", "\x80\xff")
	f.Fuzz(func(t *testing.T, s, u string) {
		x, y := samples.Classes(s), samples.Classes(u)
		checkUnique(t, x, y, uniqueByWords(x, y))
		if len(x) > api.MaxLines || len(y) > api.MaxLines {
			checkDiff(t, x, y, nil, api.ErrLong)
			return
		}
		checkDiff(t, x, y, scriptByWords(t, x, y), api.OK)
	})
}

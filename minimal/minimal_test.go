package minimal_test

import (
	"fmt"
	"math"
	"math/bits"
	"slices"
	"strconv"
	"strings"
	"testing"

	"redline/api"
	"redline/edits"
	"redline/minimal"
	"redline/samples"
)

// lengthsByWords is L(i, j) of all places: the ends have 0; elsewhere either the first two make a pair, or one of them is left out.
func lengthsByWords(x, y []int) [][]int {
	l := make([][]int, len(x)+1)
	for i := range l {
		l[i] = make([]int, len(y)+1)
	}
	for i := len(x) - 1; i >= 0; i-- {
		for j := len(y) - 1; j >= 0; j-- {
			l[i][j] = max(l[i+1][j], l[i][j+1])
			if x[i] == y[j] {
				l[i][j] = max(l[i][j], 1+l[i+1][j+1])
			}
		}
	}
	return l
}

// signsByWords is what is done with each line, by the chapter's words: = is kept, - taken out, + put in.
func signsByWords(x, y []int) string {
	var signs strings.Builder
	l := lengthsByWords(x, y)
	i, j := 0, 0
	for i < len(x) && j < len(y) {
		if x[i] == y[j] {
			signs.WriteByte('=')
			i, j = i+1, j+1
		} else if l[i+1][j] >= l[i][j+1] {
			signs.WriteByte('-')
			i++
		} else {
			signs.WriteByte('+')
			j++
		}
	}
	signs.WriteString(strings.Repeat("-", len(x)-i))
	signs.WriteString(strings.Repeat("+", len(y)-j))
	return signs.String()
}

// short is a text as it is told: of a long one how long it is.
func short(x []int) string {
	if len(x) > 50 {
		return "a text of " + strconv.Itoa(len(x)) + " members"
	}
	return fmt.Sprint(x)
}

// checkLength holds Length against what it must answer.
func checkLength(t *testing.T, x, y []int, want int, code api.Errno) {
	t.Helper()
	if n, err := minimal.Length(x, y); n != want || err != code {
		t.Errorf("length of %s and %s: %d, %d, want %d, %d", short(x), short(y), n, err, want, code)
	}
}

// checkDiff holds Diff against what it must answer.
func checkDiff(t *testing.T, x, y []int, want []api.Change, code api.Errno) {
	t.Helper()
	l, err := minimal.Diff(x, y)
	if !slices.Equal(l, want) || err != code {
		t.Errorf("diff of %s and %s: %v, %d, want %v, %d", short(x), short(y), l, err, want, code)
	}
}

// check holds both calls against what is done with each line.
func check(t *testing.T, x, y []int, signs string) {
	t.Helper()
	checkLength(t, x, y, strings.Count(signs, "="), api.OK)
	checkDiff(t, x, y, samples.Script(signs), api.OK)
}

// chosen is the members of a text at the places whose bits are set.
func chosen(x []int, places uint) []int {
	var l []int
	for i, member := range x {
		if places>>i&1 != 0 {
			l = append(l, member)
		}
	}
	return l
}

// choices hands over every choice of equally many members of both texts, as places.
func choices(x, y []int, do func(p, q uint)) {
	for p := range uint(1) << len(x) {
		for q := range uint(1) << len(y) {
			if bits.OnesCount(p) == bits.OnesCount(q) {
				do(p, q)
			}
		}
	}
}

// commonRow tells whether x can be had from y by leaving out members.
func commonRow(x, y []int) bool {
	for _, member := range y {
		if len(x) > 0 && x[0] == member {
			x = x[1:]
		}
	}
	return len(x) == 0
}

// textCase is two texts, and what is done with each line.
type textCase samples.Case

// textCases are the edges that the chapter names, behind those of all engines.
func textCases() []textCase {
	var l []textCase
	for _, c := range samples.Plain() {
		l = append(l, textCase(c))
	}
	return append(l, []textCase{
		{"x is y's middle", []int{2, 3}, []int{1, 2, 3, 4}, "+==+"},
		{"x is in y, here and there", []int{1, 3}, []int{0, 1, 2, 3, 4}, "+=+=+"},
		{"y is x's middle", []int{1, 2, 3, 4}, []int{2, 3}, "-==-"},
		{"y is in x, here and there", []int{0, 1, 2, 3, 4}, []int{1, 3}, "-=-=-"},
		{"equal in the middle", []int{1, 2, 3}, []int{4, 2, 5}, "-+=-+"},
		{"several times in both", []int{1, 1, 1}, []int{1, 1}, "==-"},
		{"several times, others ahead", []int{2, 1, 1}, []int{3, 1, 1, 1}, "-+==+"},
		{"both the same: x's goes", []int{1, 2}, []int{2, 1}, "-=+"},
		{"both the same, of pairs", []int{1, 2, 3, 4}, []int{3, 4, 1, 2}, "--==++"},
		{"both the same, behind an equal front", []int{7, 1, 2}, []int{7, 2, 1}, "=-=+"},
		{"both the same, and further on the second greater", []int{1, 2, 3}, []int{2, 1, 3}, "-=+="},
		{"both the same, twice", []int{1, 2, 3}, []int{3, 2, 1}, "--=++"},
		{"the first is greater", []int{9, 1, 2}, []int{1, 2, 9}, "-==+"},
		{"the first is greater, at the end", []int{9, 1}, []int{1}, "-="},
		{"the second is greater", []int{1, 2, 9}, []int{9, 1, 2}, "+==-"},
		{"the second is greater, at the end", []int{1}, []int{9, 1}, "+="},
		{"the second is greater, then the first", []int{1, 2, 8, 3, 4}, []int{9, 1, 2, 3, 4}, "+==-=="},
		{"x is left in the end", []int{1, 2, 3, 4}, []int{9, 1}, "+=---"},
		{"y is left in the end", []int{9, 1}, []int{1, 2, 3, 4}, "-=+++"},
		{"neither is left in the end", []int{9, 1}, []int{8, 1}, "-+="},
		{"classes below 0", []int{-1, -2, -3}, []int{-2, -1, -3}, "-=+="},
		{"the class 0", []int{0, 1}, []int{1, 0}, "-=+"},
		{"-1 among others", []int{-1, 5}, []int{5, -1}, "-=+"},
		{"classes as great as an int holds", []int{math.MaxInt, math.MinInt}, []int{math.MinInt, math.MaxInt}, "-=+"},
		{"the greatest and the least", []int{math.MaxInt}, []int{math.MinInt}, "-+"},
		{"the greatest and one less", []int{math.MaxInt, math.MaxInt - 1}, []int{math.MaxInt - 1}, "-="},
		{"classes that are the same in their last bits", []int{1, 1 + 1<<32}, []int{1 + 1<<32, 1}, "-=+"},
		{"the chapter's example", []int{1, 2, 3, 1}, []int{2, 1, 3}, "-=-=+"},
	}...)
}

// Promise 6.1.

func TestLengthAtTheEdges(t *testing.T) {
	for _, c := range textCases() {
		t.Run(c.Name, func(t *testing.T) { checkLength(t, c.X, c.Y, strings.Count(c.Signs, "="), api.OK) })
	}
}

func TestLengthIsThatOfTheLongestCommonRow(t *testing.T) {
	samples.Both(3, 4, func(x, y []int) {
		longest := 0
		choices(x, y, func(p, q uint) {
			if slices.Equal(chosen(x, p), chosen(y, q)) {
				longest = max(longest, bits.OnesCount(p))
			}
		})
		checkLength(t, x, y, longest, api.OK)
	})
}

func TestLengthOfAllShortTexts(t *testing.T) {
	samples.Both(2, 7, func(x, y []int) { checkLength(t, x, y, lengthsByWords(x, y)[0][0], api.OK) })
}

func TestTooManyMembersAreRefused(t *testing.T) {
	for _, c := range samples.Sizes() {
		for _, from := range []int{0, 1, c.X} { // all of y in x, all but the first, none
			x, y := samples.Count(0, c.X), samples.Count(from, c.Y)
			n, err := minimal.Length(x, y)
			l, code := minimal.Diff(x, y)
			if err != c.Err || code != c.Err {
				t.Errorf("%d and %d members: length %d, diff %d, want %d", c.X, c.Y, err, code, c.Err)
			}
			if c.Err != api.OK && (n != 0 || len(l) != 0) {
				t.Errorf("%d and %d members: length %d, diff %v beside an error", c.X, c.Y, n, l)
			}
		}
	}
}

// longCase is a pair of texts as long as may be, and what of them is known without counting.
type longCase struct {
	name string
	x, y []int
	want []api.Change
	n    int
}

// longCases are the greatest texts, each with an answer that a text of a few lines has alike.
func longCases() []longCase {
	const most = api.MaxLines
	all, ones := samples.Count(0, most), slices.Repeat([]int{1}, most)
	return []longCase{
		{"the same", all, all, nil, most},
		{"the same member", ones, ones, nil, most},
		{"nothing in common", all, samples.Count(most, most), samples.Rows{{0, most, 0, most}}.Changes(), 0},
		{"none in x", nil, all, samples.Rows{{0, 0, 0, most}}.Changes(), 0},
		{"none in y", all, nil, samples.Rows{{0, most, 0, 0}}.Changes(), 0},
		{"others at the front", slices.Concat([]int{-1}, all[1:]), slices.Concat([]int{-2}, all[1:]), samples.Rows{{0, 1, 0, 1}}.Changes(), most - 1},
		{"others at the end", slices.Concat(all[1:], []int{-1}), slices.Concat(all[1:], []int{-2}), samples.Rows{{most - 1, 1, most - 1, 1}}.Changes(), most - 1},
		{"the first has gone to the end", all, slices.Concat(all[1:], all[:1]), samples.Rows{{0, 1, 0, 0}, {most, 0, most - 1, 1}}.Changes(), most - 1},
		{"the last has come to the front", all, slices.Concat(all[most-1:], all[:most-1]), samples.Rows{{0, 0, 0, 1}, {most - 1, 1, most, 0}}.Changes(), most - 1},
		{"turned about", all, samples.Turned(all), samples.Rows{{0, most - 1, 0, 0}, {most, 0, 1, most - 1}}.Changes(), 1},
		{"halves exchanged", all, slices.Concat(all[most/2:], all[:most/2]), samples.Rows{{0, most / 2, 0, 0}, {most, 0, most / 2, most / 2}}.Changes(), most / 2},
		{"one at the end of many", []int{most - 1}, all, samples.Rows{{0, 0, 0, most - 1}}.Changes(), 1},
		{"one of many", ones, []int{1}, samples.Rows{{1, most - 1, 1, 0}}.Changes(), 1},
	}
}

func TestTheGreatestTexts(t *testing.T) {
	for _, c := range longCases() {
		t.Run(c.name, func(t *testing.T) {
			checkLength(t, c.x, c.y, c.n, api.OK)
			checkDiff(t, c.x, c.y, c.want, api.OK)
		})
	}
}

// Members that are there many times, in turns of which no two fit, so that the lengths hold much that is the same.
func TestTheGreatestTextsByTheChaptersWords(t *testing.T) {
	x, y := make([]int, api.MaxLines), make([]int, api.MaxLines-1)
	for i := range x {
		x[i] = i * i % 11
	}
	for j := range y {
		y[j] = j * j * j % 13
	}
	check(t, x, y, signsByWords(x, y))
	check(t, y, x, signsByWords(y, x))
}

// Promise 6.2.

func TestDiffAtTheEdges(t *testing.T) {
	for _, c := range textCases() {
		t.Run(c.Name, func(t *testing.T) { checkDiff(t, c.X, c.Y, samples.Script(c.Signs), api.OK) })
	}
}

func TestDiffOfTheChaptersExamples(t *testing.T) {
	checkDiff(t, []int{1, 2, 3, 1}, []int{2, 1, 3}, samples.Rows{{0, 1, 0, 0}, {2, 1, 1, 0}, {4, 0, 2, 1}}.Changes(), api.OK)
	checkDiff(t, []int{1}, []int{1, 1}, samples.Rows{{1, 0, 1, 1}}.Changes(), api.OK)
}

func TestDiffOfAllShortTexts(t *testing.T) {
	samples.Both(3, 5, func(x, y []int) { checkDiff(t, x, y, samples.Script(signsByWords(x, y)), api.OK) })
	samples.Both(2, 7, func(x, y []int) { checkDiff(t, x, y, samples.Script(signsByWords(x, y)), api.OK) })
}

// Which classes are the same counts alone, not which numbers they have.
func TestClassesMayBeAnyNumbers(t *testing.T) {
	for _, names := range samples.Odd() {
		samples.Both(3, 4, func(x, y []int) { check(t, samples.Renamed(x, names), samples.Renamed(y, names), signsByWords(x, y)) })
	}
}

// Promise 6.3.

func TestDiffKeepsPairsOfTheSameClass(t *testing.T) {
	samples.Both(3, 5, func(x, y []int) {
		l, err := minimal.Diff(x, y)
		keep, code := edits.Keep(l, len(x), len(y))
		if err != api.OK || code != api.OK {
			t.Fatalf("diff of %v and %v: %v, %d, keep %d", x, y, l, err, code)
		}
		pairs := 0
		for i, j := range keep {
			if j == -1 {
				continue
			}
			pairs++
			if x[i] != y[j] {
				t.Errorf("diff of %v and %v: %v keeps %d with %d", x, y, l, i, j)
			}
		}
		checkLength(t, x, y, pairs, api.OK)
	})
}

// scriptOf is the edit script that keeps the members at some places of both texts.
func scriptOf(n, m int, p, q uint) []api.Change {
	keep := slices.Repeat([]int{-1}, n)
	for ; p != 0; p, q = p&(p-1), q&(q-1) {
		keep[bits.TrailingZeros(p)] = bits.TrailingZeros(q)
	}
	l, _ := edits.Make(keep, m)
	return l
}

func TestNoScriptKeepsMore(t *testing.T) {
	samples.Both(2, 5, func(x, y []int) {
		least, _ := minimal.Diff(x, y)
		choices(x, y, func(p, q uint) {
			if !slices.Equal(chosen(x, p), chosen(y, q)) {
				return
			}
			if l := scriptOf(len(x), len(y), p, q); edits.Cost(l) < edits.Cost(least) {
				t.Errorf("diff of %v and %v: %v, which costs more than %v", x, y, least, l)
			}
		})
	})
}

func TestLengthIsTheSameTheOtherWayRoundAndTurnedAbout(t *testing.T) {
	both := func(x, y []int) {
		n, err := minimal.Length(x, y)
		checkLength(t, y, x, n, err)
		checkLength(t, samples.Turned(x), samples.Turned(y), n, err)
		checkLength(t, samples.Turned(y), samples.Turned(x), n, err)
	}
	samples.Both(3, 5, both)
	for _, c := range textCases() {
		both(c.X, c.Y)
	}
	for _, c := range longCases() {
		both(c.x, c.y)
	}
	both(samples.Count(0, api.MaxLines+1), nil)
}

func TestLengthIsAtMostTheShorterOnes(t *testing.T) {
	samples.Both(3, 5, func(x, y []int) {
		if len(x) > len(y) {
			x, y = y, x
		}
		n, err := minimal.Length(x, y)
		if err != api.OK || n < 0 || n > len(x) {
			t.Errorf("length of %v and %v: %d, %d", x, y, n, err)
		}
		if (n == len(x)) != commonRow(x, y) {
			t.Errorf("length of %v and %v: %d, though the shorter one is a common row: %v", x, y, n, commonRow(x, y))
		}
	})
}

// Diff leads from x to y: with lines that have the classes as names, it makes y's of x's.
func TestDiffMakesTheOtherText(t *testing.T) {
	named := func(x []int) []string {
		var l []string
		for _, class := range x {
			l = append(l, strings.Repeat("x", class)+"\n")
		}
		return l
	}
	samples.Both(3, 5, func(x, y []int) {
		l, _ := minimal.Diff(x, y)
		text, err := edits.Apply(l, named(x), named(y))
		if err != api.OK || !slices.Equal(text, named(y)) {
			t.Errorf("diff of %v and %v: %v makes %q, %d", x, y, l, text, err)
		}
	})
}

// Rule R4.

func TestTextsAreLeftAlone(t *testing.T) {
	for _, c := range textCases() {
		x, y := samples.Spare(c.X, 99), samples.Spare(c.Y, 99)
		check(t, x, y, c.Signs)
		check(t, x, y, c.Signs)
		if !samples.Left(x, c.X, 99) || !samples.Left(y, c.Y, 99) {
			t.Errorf("%v and %v have become %v and %v", c.X, c.Y, x[:len(x)+1], y[:len(y)+1])
		}
	}
}

func TestTextsMayShareMemory(t *testing.T) {
	all := []int{1, 2, 1, 2, 1}
	check(t, all, all, "=====")
	check(t, all[:4], all[1:], "-===+")
	check(t, all[1:], all[:4], "-===+")
	check(t, all[:2], all, "==+++")
}

func TestAnswersAreNewMemory(t *testing.T) {
	x, y := []int{1, 2, 3, 1}, []int{2, 1, 3}
	want := samples.Script("-=-=+")
	l, _ := minimal.Diff(x, y)
	again, _ := minimal.Diff(x, y)
	for i := range again {
		again[i] = api.Change{A: 99}
	}
	_ = append(again, api.Change{A: 99})
	x[0], y[0] = 99, 98
	if !slices.Equal(l, want) {
		t.Errorf("%v has become %v", want, l)
	}
}

func FuzzAnyTexts(f *testing.F) {
	f.Add("", "")
	f.Add("abca", "bac")
	f.Add("abcabba", "cbabac")
	f.Add("\xff\x00\x80", "\x80\xff")
	f.Fuzz(func(t *testing.T, s, u string) {
		x, y := samples.Classes(s), samples.Classes(u)
		if len(x) > api.MaxLines || len(y) > api.MaxLines {
			checkLength(t, x, y, 0, api.ErrLong)
			checkDiff(t, x, y, nil, api.ErrLong)
			return
		}
		check(t, x, y, signsByWords(x, y))
	})
}

package speedy_test

import (
	"math"
	"slices"
	"testing"

	"redline/samples"
	"redline/speedy"
)

// checkGreedy holds Greedy against what it must answer.
func checkGreedy(t *testing.T, x, y []int, far int, want []int) {
	t.Helper()
	if l := speedy.Greedy(x, y, far); !slices.Equal(l, want) {
		t.Errorf("greedy of %s and %s, far %d: %s, want %s", told(x), told(y), far, told(l), told(want))
	}
}

// greedyByWords is what Greedy answers, by the chapter's words: all places are asked, and the least one that fits is taken.
func greedyByWords(x, y []int, far int) []int {
	var l []int
	behind := 0
	for _, class := range x {
		least := -1
		for place, other := range slices.Backward(y) {
			if place >= behind && place-behind < far && other == class {
				least = place
			}
		}
		l = append(l, least)
		if least != -1 {
			behind = least + 1
		}
	}
	return l
}

// greedyCase is two texts, how far is looked, and where the members of x are kept.
type greedyCase struct {
	name string
	x, y []int
	far  int
	want []int
}

// greedyCases are the edges that the chapter names.
func greedyCases() []greedyCase {
	return []greedyCase{
		{"no members", nil, nil, 5, nil},
		{"no members, empty lists", []int{}, []int{}, 5, nil},
		{"none in x", nil, []int{1, 2}, 5, nil},
		{"none in y", []int{1, 2}, nil, 5, []int{-1, -1}},
		{"none in y, as far as can be", []int{1, 2}, nil, math.MaxInt, []int{-1, -1}},
		{"the same, one member", []int{7}, []int{7}, 1, []int{0}},
		{"the same, far 1", []int{1, 2, 3, 1}, []int{1, 2, 3, 1}, 1, []int{0, 1, 2, 3}},
		{"the same, as far as can be", []int{1, 2, 3, 1}, []int{1, 2, 3, 1}, math.MaxInt, []int{0, 1, 2, 3}},
		{"the same, far 0", []int{1, 2, 3, 1}, []int{1, 2, 3, 1}, 0, []int{-1, -1, -1, -1}},
		{"the same, of one class", []int{1, 1, 1}, []int{1, 1, 1}, 5, []int{0, 1, 2}},
		{"nothing in common", []int{1, 2, 3}, []int{4, 5}, 5, []int{-1, -1, -1}},
		{"far as small as can be", []int{1, 2}, []int{1, 2}, math.MinInt, []int{-1, -1}},
		{"far below 0", []int{1, 2}, []int{1, 2}, -1, []int{-1, -1}},
		{"far 0", []int{1, 2}, []int{1, 2}, 0, []int{-1, -1}},
		{"far 1: the place behind the last one alone", []int{1, 2}, []int{1, 9, 2}, 1, []int{0, -1}},
		{"far 2: one place more", []int{1, 2}, []int{1, 9, 2}, 2, []int{0, 2}},
		{"far 2: but one", []int{1, 2}, []int{1, 9, 9, 2}, 2, []int{0, -1}},
		{"as far as can be", []int{1, 2}, []int{9, 1, 9, 9, 2, 9}, math.MaxInt, []int{1, 4}},
		{"as far as can be, the last place of all", []int{1, 2, 3}, []int{1, 9, 3}, math.MaxInt, []int{0, -1, 2}},
		{"at first, the last place that far lets in", []int{1}, []int{9, 9, 9, 1}, 4, []int{3}},
		{"at first, the first place that far does not let in", []int{1}, []int{9, 9, 9, 1}, 3, []int{-1}},
		{"behind a place, the last one that far lets in", []int{5, 1}, []int{9, 5, 9, 9, 9, 1}, 4, []int{1, 5}},
		{"behind a place, the first one that far does not let in", []int{5, 1}, []int{9, 5, 9, 9, 9, 1}, 3, []int{1, -1}},
		{"the last place of y, just let in", []int{1, 2}, []int{1, 8, 2}, 2, []int{0, 2}},
		{"far reaches just to the end of y", []int{1}, []int{8, 9}, 2, []int{-1}},
		{"far reaches one place behind the end of y", []int{1}, []int{8, 9}, 3, []int{-1}},
		{"nothing stands behind the end of y", []int{1, 1, 1}, []int{1}, 5, []int{0, -1, -1}},
		{"nothing stands behind the end of y, as far as can be", []int{2, 2}, []int{1, 2}, math.MaxInt, []int{1, -1}},
		{"several places: the least", []int{1}, []int{9, 1, 1, 1}, 5, []int{1}},
		{"several places, one after the other", []int{1, 1, 1}, []int{1, 9, 1, 9, 9, 1}, 3, []int{0, 2, 5}},
		{"several places, more than in x", []int{1, 1}, []int{1, 1, 1, 1}, 5, []int{0, 1}},
		{"several members, fewer places", []int{1, 1, 1}, []int{9, 1, 1}, 5, []int{1, 2, -1}},
		{"the same place is not found twice", []int{1, 1}, []int{1, 9}, 5, []int{0, -1}},
		{"one that finds none between two that find theirs", []int{1, 9, 2}, []int{1, 2}, 1, []int{0, -1, 1}},
		{"several that find none", []int{9, 1, 9, 9, 2, 9}, []int{1, 2}, 1, []int{-1, 0, -1, -1, 1, -1}},
		{"one that finds none moves nothing on", []int{9, 9, 9, 1}, []int{1, 9, 9}, 1, []int{-1, -1, -1, 0}},
		{"a place found far off leaves those ahead of it out", []int{1, 2, 3}, []int{2, 3, 1, 9}, 3, []int{2, -1, -1}},
		{"exchanged", []int{1, 2}, []int{2, 1}, 2, []int{1, -1}},
		{"exchanged, far 1", []int{1, 2}, []int{2, 1}, 1, []int{-1, 0}},
		{"classes below 0", []int{-3, -2}, []int{-2, -3, -2}, 2, []int{1, 2}},
		{"the class -1", []int{-1, 5}, []int{5, -1}, 2, []int{1, -1}},
		{"the class -1 that is not there", []int{-1, 5}, []int{5}, 2, []int{-1, 0}},
		{"the class 0", []int{0, 0}, []int{1, 0}, 2, []int{1, -1}},
		{"a class and its opposite", []int{1}, []int{-1}, 2, []int{-1}},
		{"classes as great as an int holds", []int{math.MaxInt, math.MinInt}, []int{math.MinInt, math.MaxInt, math.MinInt}, math.MaxInt, []int{1, 2}},
		{"classes that are the same in their last bits", []int{1, 1 + 1<<32}, []int{1 + 1<<32, 1}, 2, []int{1, -1}},
		{"the chapter's example, far 3", []int{1, 2, 3}, []int{2, 3, 1}, 3, []int{2, -1, -1}},
		{"the chapter's example, far 2", []int{1, 2, 3}, []int{2, 3, 1}, 2, []int{-1, 0, 1}},
		{"the chapter's example, far 1", []int{1, 2, 3}, []int{2, 3, 1}, 1, []int{-1, 0, 1}},
		{"the chapter's example of two members", []int{2, 3}, []int{2, 3, 1}, 1, []int{0, 1}},
	}
}

// Promise 9.1.

func TestGreedyAtTheEdges(t *testing.T) {
	for _, c := range greedyCases() {
		t.Run(c.name, func(t *testing.T) { checkGreedy(t, c.x, c.y, c.far, c.want) })
	}
}

// fars is every choice of far that may matter for texts of at most so many members.
func fars(length int) []int {
	return append(samples.Count(-2, length+5), math.MinInt, math.MinInt+1, math.MaxInt-1, math.MaxInt)
}

// greedyForAll holds Greedy against the chapter's words, for every far that may matter.
func greedyForAll(t *testing.T) func(x, y []int) {
	return func(x, y []int) {
		for _, far := range fars(len(y)) {
			checkGreedy(t, x, y, far, greedyByWords(x, y, far))
		}
	}
}

func TestGreedyOfAllShortTexts(t *testing.T) {
	samples.Both(2, 6, greedyForAll(t))
	samples.Both(3, 4, greedyForAll(t))
	samples.Both(4, 3, greedyForAll(t))
}

func TestGreedyOfLongerTexts(t *testing.T) {
	samples.Mixed(5000, 16, greedyForAll(t))
	samples.Mixed(100, 60, greedyForAll(t))
}

// How far is looked may be any number: Greedy does not know of Diff's 64.
func TestGreedyLooksJustSoFar(t *testing.T) {
	for _, far := range []int{1, 2, 63, 64, 65, 1000, 1 << 17} {
		others := slices.Repeat([]int{9}, far)
		checkGreedy(t, []int{1}, append(others[1:], 1), far, []int{far - 1})
		checkGreedy(t, []int{1}, slices.Concat(others, []int{1}), far, []int{-1})
	}
}

func TestGreedyHasNoLimit(t *testing.T) {
	const many = 1 << 18
	x := samples.Count(0, many)
	checkGreedy(t, x, x, 1, x)
	checkGreedy(t, x, x, math.MaxInt, x)
	checkGreedy(t, x, samples.Count(many, many), 64, samples.None(many))
	checkGreedy(t, x, append([]int{-1}, x...), 2, samples.Count(1, many))
	checkGreedy(t, x, append([]int{-1}, x...), 1, samples.None(many))
	checkGreedy(t, x, nil, math.MaxInt, samples.None(many))
	checkGreedy(t, nil, x, math.MaxInt, nil)
	checkGreedy(t, []int{many - 1, 0}, x, math.MaxInt, []int{many - 1, -1})
}

// Which classes are the same counts alone, not which numbers they have.
func TestGreedyOfAnyNumbers(t *testing.T) {
	for _, names := range samples.Odd() {
		samples.Both(3, 4, func(x, y []int) {
			checkGreedy(t, samples.Renamed(x, names), samples.Renamed(y, names), 2, greedyByWords(x, y, 2))
		})
	}
}

// Rule R4.

func TestGreedyLeavesTextsAlone(t *testing.T) {
	for _, c := range greedyCases() {
		x, y := samples.Spare(c.x, 99), samples.Spare(c.y, 99)
		checkGreedy(t, x, y, c.far, c.want)
		checkGreedy(t, x, y, c.far, c.want)
		if !samples.Left(x, c.x, 99) || !samples.Left(y, c.y, 99) {
			t.Errorf("%s: %v and %v have become %v and %v", c.name, c.x, c.y, x[:len(x)+1], y[:len(y)+1])
		}
	}
}

// What stands behind the end of a list is none of its members.
func TestGreedyStopsAtTheEndOfAList(t *testing.T) {
	checkGreedy(t, []int{1, 2}, samples.Spare([]int{1}, 2), 5, []int{0, -1})
	checkGreedy(t, samples.Spare([]int{1}, 2), []int{1, 2}, 5, []int{0})
}

func TestGreedyOfTextsThatShareMemory(t *testing.T) {
	all := []int{1, 2, 3, 2, 4}
	checkGreedy(t, all, all, 1, []int{0, 1, 2, 3, 4})
	checkGreedy(t, all[:4], all[1:], 5, []int{-1, 0, 1, 2})
	checkGreedy(t, all[1:], all[:4], 5, []int{1, 2, 3, -1})
}

func TestGreedyAnswersNewMemory(t *testing.T) {
	for _, c := range greedyCases() {
		x, y := slices.Clone(c.x), slices.Clone(c.y)
		first, second := speedy.Greedy(x, y, c.far), speedy.Greedy(x, y, c.far)
		if !samples.Apart(func(i int) int { return i }, first, second, x, y) {
			t.Errorf("%s: an answer shares memory with another one, or with what was handed in", c.name)
		}
	}
}

func FuzzGreedy(f *testing.F) {
	f.Add("", "", 0)
	f.Add("abc", "bca", 3)
	f.Add("abc", "bca", 1)
	f.Add("aa", "baca", math.MaxInt)
	f.Add("\xff\x00\x80", "\x80\xff", math.MinInt)
	f.Fuzz(func(t *testing.T, s, u string, far int) {
		if len(s) > 1000 || len(u) > 1000 {
			return // the search by the chapter's words would take too long
		}
		x, y := samples.Classes(s), samples.Classes(u)
		checkGreedy(t, x, y, far, greedyByWords(x, y, far))
	})
}

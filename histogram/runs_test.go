package histogram_test

import (
	"cmp"
	"math"
	"slices"
	"testing"

	"redline/histogram"
	"redline/samples"
)

// run is a run out of numbers: X, Y, N and Rare.
func run(x, y, n, rare int) histogram.Run {
	return histogram.Run{X: x, Y: y, N: n, Rare: rare}
}

// none is what stands beside the word that there is no run.
func none() histogram.Run {
	return histogram.Run{}
}

// checkBest holds Best against what it must answer.
func checkBest(t *testing.T, x, y []int, want histogram.Run) {
	t.Helper()
	if r, ok := histogram.Best(x, y); r != want || ok != (want != none()) {
		t.Errorf("best of %s and %s: %+v, %v, want %+v", told(x), told(y), r, ok, want)
	}
}

// isRun tells whether n members of x and of y are a run, by the chapter's words.
func isRun(x, y []int, i, j, n int) bool {
	ahead := i > 0 && j > 0 && x[i-1] == y[j-1]
	behind := i+n < len(x) && j+n < len(y) && x[i+n] == y[j+n]
	return slices.Equal(x[i:i+n], y[j:j+n]) && !ahead && !behind
}

// rareByWords is how rare n members of x are.
func rareByWords(x []int, i, n int) int {
	least := math.MaxInt
	for _, class := range x[i : i+n] {
		times := 0
		for _, member := range x {
			if member == class {
				times++
			}
		}
		least = min(least, times)
	}
	return least
}

// runsByWords is all runs of two texts.
func runsByWords(x, y []int) []histogram.Run {
	var l []histogram.Run
	for i := range x {
		for j := range y {
			for n := 1; n <= min(len(x)-i, len(y)-j) && x[i+n-1] == y[j+n-1]; n++ {
				if isRun(x, y, i, j, n) {
					l = append(l, run(i, j, n, rareByWords(x, i, n)))
				}
			}
		}
	}
	return l
}

// bestByWords is what Best answers, by the chapter's words.
func bestByWords(x, y []int) histogram.Run {
	l := runsByWords(x, y)
	if len(l) == 0 {
		return none()
	}
	return slices.MinFunc(l, func(r, q histogram.Run) int {
		return cmp.Or(r.Rare-q.Rare, q.N-r.N, r.X-q.X, r.Y-q.Y)
	})
}

// bestCase is two texts and their best run.
type bestCase struct {
	name string
	x, y []int
	want histogram.Run
}

// runCases are the edges that the chapter names.
func runCases() []bestCase {
	return []bestCase{
		{"no members", nil, nil, none()},
		{"no members, empty lists", []int{}, []int{}, none()},
		{"none in x", nil, []int{1, 2}, none()},
		{"none in y", []int{1, 2}, nil, none()},
		{"nothing in common, one each", []int{1}, []int{2}, none()},
		{"nothing in common", []int{1, 1, 2}, []int{3, 4, 4}, none()},
		{"the same, one member", []int{7}, []int{7}, run(0, 0, 1, 1)},
		{"the same", []int{1, 2, 3}, []int{1, 2, 3}, run(0, 0, 3, 1)},
		{"the same, with one that is there several times", []int{1, 2, 1}, []int{1, 2, 1}, run(0, 0, 3, 1)},
		{"the same, of one class", []int{1, 1, 1}, []int{1, 1, 1}, run(0, 0, 3, 3)},
		{"of one class, more in x", []int{1, 1, 1, 1}, []int{1, 1}, run(0, 0, 2, 4)},
		{"of one class, more in y", []int{1, 1}, []int{1, 1, 1, 1}, run(0, 0, 2, 2)},
		{"one run alone", []int{5, 1, 2, 6}, []int{7, 1, 2, 8}, run(1, 1, 2, 1)},
		{"one run alone, of one member", []int{5, 1, 6}, []int{7, 8, 1}, run(1, 2, 1, 1)},
		{"they part in rare alone", []int{1, 3, 1, 2}, []int{1, 4, 2}, run(3, 2, 1, 1)},
		{"they part in rare alone, 2 and 3", []int{1, 3, 1, 2, 1, 2}, []int{1, 4, 2}, run(3, 2, 1, 2)},
		{"the rarer one is shorter", []int{1, 1, 1, 9, 2}, []int{1, 1, 1, 8, 2}, run(4, 4, 1, 1)},
		{"the rarer one is shorter, and ahead", []int{2, 9, 1, 1, 1}, []int{2, 8, 1, 1, 1}, run(0, 0, 1, 1)},
		{"they part in length alone, the longer one behind", []int{1, 9, 2, 3}, []int{1, 8, 2, 3}, run(2, 2, 2, 1)},
		{"they part in length alone, the longer one ahead", []int{2, 3, 9, 1}, []int{2, 3, 8, 1}, run(0, 0, 2, 1)},
		{"the longer one is behind in x, ahead in y", []int{1, 9, 2, 3}, []int{2, 3, 8, 1}, run(2, 0, 2, 1)},
		{"longer by members that are not rare", []int{1, 9, 5, 2, 5}, []int{1, 8, 5, 2, 5}, run(2, 2, 3, 1)},
		{"they part in X alone", []int{1, 5, 1}, []int{1}, run(0, 0, 1, 2)},
		{"they part in X alone, side by side", []int{5, 1, 1, 6}, []int{7, 1, 8}, run(1, 1, 1, 2)},
		{"they part in X and Y: X counts", []int{1, 2}, []int{2, 1}, run(0, 1, 1, 1)},
		{"they part in X and Y, one rare member in both", []int{5, 5, 1, 9}, []int{0, 5, 1, 9, 5, 5, 1}, run(0, 4, 3, 1)},
		{"they part in X and Y, the other way round", []int{5, 5, 1, 9}, []int{5, 5, 1, 0, 5, 1, 9}, run(0, 0, 3, 1)},
		{"they part in Y alone", []int{1}, []int{1, 5, 1}, run(0, 0, 1, 1)},
		{"they part in Y alone, side by side", []int{7, 1, 8}, []int{5, 1, 1, 6}, run(1, 1, 1, 1)},
		{"they part in Y alone, longer ones", []int{7, 1, 2, 8}, []int{5, 1, 2, 5, 1, 2}, run(1, 1, 2, 1)},
		{"the second in Y is longer", []int{7, 1, 2, 8}, []int{5, 1, 5, 1, 2}, run(1, 3, 2, 1)},
		{"the rarest member is the first", []int{3, 1, 8, 1}, []int{9, 3, 1, 7, 1}, run(0, 1, 2, 1)},
		{"the rarest member is the middle one", []int{1, 3, 1, 8}, []int{9, 1, 3, 1, 7}, run(0, 1, 3, 1)},
		{"the rarest member is the last", []int{1, 3, 8, 1}, []int{9, 1, 3, 7}, run(0, 1, 2, 1)},
		{"several rarest members", []int{5, 1, 5, 2, 5, 8}, []int{9, 5, 1, 5, 2, 5, 7}, run(0, 1, 5, 1)},
		{"a rarest member in each of several runs", []int{5, 1, 5, 2, 5}, []int{5, 2, 5, 1, 5}, run(0, 2, 3, 1)},
		{"it ends where x ends", []int{8, 1, 2}, []int{1, 2, 9}, run(1, 0, 2, 1)},
		{"it ends where y ends", []int{1, 2, 9}, []int{8, 1, 2}, run(0, 1, 2, 1)},
		{"it ends where both end", []int{8, 1, 2}, []int{9, 7, 1, 2}, run(1, 2, 2, 1)},
		{"it begins where x begins", []int{1, 2, 8}, []int{9, 1, 2, 7}, run(0, 1, 2, 1)},
		{"it begins where y begins", []int{9, 1, 2, 7}, []int{1, 2, 8}, run(1, 0, 2, 1)},
		{"it begins where both begin", []int{1, 2, 8}, []int{1, 2, 9, 7}, run(0, 0, 2, 1)},
		{"all of x", []int{1, 2}, []int{9, 1, 2, 8}, run(0, 1, 2, 1)},
		{"all of y", []int{9, 1, 2, 8}, []int{1, 2}, run(1, 0, 2, 1)},
		{"more often in y than in x", []int{1, 2}, []int{1, 9, 1, 1}, run(0, 0, 1, 1)},
		{"rare in x, often in y, outweighs often in x, rare in y", []int{1, 1, 2}, []int{2, 2, 2, 1}, run(2, 0, 1, 1)},
		{"more often in x than in y", []int{1, 1, 1, 2, 2}, []int{1, 2}, run(2, 0, 2, 2)},
		{"the rarest of x is not in y", []int{1, 2, 1, 3, 3, 3}, []int{3, 1}, run(0, 1, 1, 2)},
		{"the class 0", []int{0, 1, 1}, []int{1, 1, 0}, run(0, 2, 1, 1)},
		{"the class -1", []int{-1, 1, 1}, []int{1, 1, -1}, run(0, 2, 1, 1)},
		{"classes below 0", []int{-5, -2, -3}, []int{-2, -3, -4}, run(1, 0, 2, 1)},
		{"a class and its opposite", []int{1}, []int{-1}, none()},
		{"classes as great as an int holds", []int{math.MaxInt, math.MinInt, math.MinInt}, []int{math.MinInt, math.MaxInt}, run(0, 1, 1, 1)},
		{"classes that are the same in their last bits", []int{1, 1 + 1<<32}, []int{1 + 1<<32}, run(1, 0, 1, 1)},
		{"the chapter's first example", []int{1, 2, 1, 3}, []int{1, 3, 1, 2}, run(0, 2, 2, 1)},
		{"what Diff hands over in it", []int{2, 1, 3}, []int{3, 1, 2}, run(0, 2, 1, 1)},
		{"the chapter's second example", []int{1}, []int{2}, none()},
	}
}

// Promise 8.1.

func TestBestAtTheEdges(t *testing.T) {
	for _, c := range runCases() {
		t.Run(c.name, func(t *testing.T) { checkBest(t, c.x, c.y, c.want) })
	}
}

func TestRunsOfTheChaptersExample(t *testing.T) {
	l := runsByWords([]int{1, 2, 1, 3}, []int{1, 3, 1, 2})
	if want := []histogram.Run{run(0, 0, 1, 2), run(0, 2, 2, 1), run(2, 0, 2, 1), run(2, 2, 1, 2)}; !slices.Equal(l, want) {
		t.Errorf("runs %+v, want %+v", l, want)
	}
}

func TestBestOfAllShortTexts(t *testing.T) {
	byWords := func(x, y []int) { checkBest(t, x, y, bestByWords(x, y)) }
	samples.Both(2, 7, byWords)
	samples.Both(3, 5, byWords)
	samples.Both(4, 4, byWords)
}

func TestBestOfLongerTexts(t *testing.T) {
	byWords := func(x, y []int) { checkBest(t, x, y, bestByWords(x, y)) }
	samples.Mixed(20000, 16, byWords)
	samples.Mixed(200, 60, byWords)
}

func TestBestHasNoLimit(t *testing.T) {
	const many = 1 << 18
	x := samples.Count(0, many)
	checkBest(t, x, x, run(0, 0, many, 1))
	checkBest(t, x, samples.Turned(x), run(0, many-1, 1, 1))
	checkBest(t, x, samples.Count(many, many), none())
	checkBest(t, x, samples.Count(many-1, many), run(many-1, 0, 1, 1))
	checkBest(t, append(slices.Clone(x), x...), x, run(0, 0, many, 2))
	checkBest(t, x, append(slices.Clone(x), x...), run(0, 0, many, 1))
	checkBest(t, x, nil, none())
	checkBest(t, nil, x, none())
}

// How rare the best one is may be any number: Best does not know of Diff's 64.
func TestBestOfOftenLines(t *testing.T) {
	for _, n := range []int{1, 2, 63, 64, 65, 66, 1000} {
		x, y := often(n)
		checkBest(t, x, y, run(0, len(y)-1, 1, n))
		ones := slices.Repeat([]int{1}, n)
		checkBest(t, ones, ones, run(0, 0, n, n))
	}
}

// Which classes are the same counts alone, not which numbers they have.
func TestBestOfAnyNumbers(t *testing.T) {
	for _, names := range samples.Odd() {
		samples.Both(3, 4, func(x, y []int) {
			checkBest(t, samples.Renamed(x, names), samples.Renamed(y, names), bestByWords(x, y))
		})
	}
}

// Rule R4.

func TestBestLeavesTextsAlone(t *testing.T) {
	for _, c := range runCases() {
		x, y := samples.Spare(c.x, 99), samples.Spare(c.y, 99)
		checkBest(t, x, y, c.want)
		checkBest(t, x, y, c.want)
		if !samples.Left(x, c.x, 99) || !samples.Left(y, c.y, 99) {
			t.Errorf("%v and %v have become %v and %v", c.x, c.y, x[:len(x)+1], y[:len(y)+1])
		}
	}
}

func TestBestOfTextsThatShareMemory(t *testing.T) {
	all := []int{1, 2, 3, 2, 4}
	checkBest(t, all, all, run(0, 0, 5, 1))
	checkBest(t, all[:3], all[1:], run(1, 0, 2, 1))
	checkBest(t, all[1:], all[:3], run(0, 1, 2, 1))
}

func FuzzBest(f *testing.F) {
	f.Add("", "")
	f.Add("abac", "acab")
	f.Add("ababa", "babab")
	f.Add("\xff\x00\x80", "\x80\xff")
	f.Fuzz(func(t *testing.T, s, u string) {
		if len(s) > 100 || len(u) > 100 {
			return // the search by the chapter's words would take too long
		}
		x, y := samples.Classes(s), samples.Classes(u)
		checkBest(t, x, y, bestByWords(x, y))
	})
}

package patience_test

import (
	"math"
	"slices"
	"testing"

	"redline/patience"
	"redline/samples"
)

// checkLongest holds Longest against what it must answer.
func checkLongest(t *testing.T, l, want []patience.Pair) {
	t.Helper()
	if row := patience.Longest(l); !slices.Equal(row, want) {
		t.Errorf("longest of %s: %s, want %s", told(l), told(row), told(want))
	}
}

// above tells whether p may stand behind q in a rising row.
func above(p, q patience.Pair) bool {
	return p.X > q.X && p.Y > q.Y
}

// rises tells whether a list is a rising row.
func rises(l []patience.Pair) bool {
	for i := 1; i < len(l); i++ {
		if !above(l[i], l[i-1]) {
			return false
		}
	}
	return true
}

// chosen is the members whose bits are set, and their places.
func chosen(l []patience.Pair, bits int) ([]patience.Pair, []int) {
	var row []patience.Pair
	var places []int
	for i, p := range l {
		if bits>>i&1 != 0 {
			row, places = append(row, p), append(places, i)
		}
	}
	return row, places
}

// longestOfAll is Longest by the chapter's words: all rows are looked at, and of the longest ones the one whose places come first.
func longestOfAll(l []patience.Pair) []patience.Pair {
	var best []patience.Pair
	var first []int
	for bits := range 1 << len(l) {
		row, places := chosen(l, bits)
		if !rises(row) || len(row) < len(best) {
			continue
		}
		if len(row) > len(best) || slices.Compare(places, first) < 0 {
			best, first = row, places
		}
	}
	return best
}

// longestByLengths is Longest for lists too long to look at all rows: each member is held against all behind it.
func longestByLengths(l []patience.Pair) []patience.Pair {
	lengths := make([]int, len(l))
	longest := 0
	for i := len(l) - 1; i >= 0; i-- {
		for j := i + 1; j < len(l); j++ {
			if above(l[j], l[i]) {
				lengths[i] = max(lengths[i], lengths[j])
			}
		}
		lengths[i]++
		longest = max(longest, lengths[i])
	}
	var row []patience.Pair
	for i, p := range l {
		if lengths[i] == longest-len(row) && (len(row) == 0 || above(p, row[len(row)-1])) {
			row = append(row, p)
		}
	}
	return row
}

// Promise 7.2.

// pairCase is a list, and its longest rising row.
type pairCase struct {
	name    string
	l, want []patience.Pair
}

// pairCases are the edges that the chapter names.
func pairCases() []pairCase {
	return []pairCase{
		{"none", nil, nil},
		{"none, an empty list", []patience.Pair{}, nil},
		{"one", pairs(3, 7), pairs(3, 7)},
		{"rises as it is", pairs(0, 0, 1, 2, 5, 3, 6, 9), pairs(0, 0, 1, 2, 5, 3, 6, 9)},
		{"falls: the first", pairs(3, 3, 2, 2, 1, 1, 0, 0), pairs(3, 3)},
		{"X rises, Y falls: the first", pairs(0, 3, 1, 2, 2, 1, 3, 0), pairs(0, 3)},
		{"X falls, Y rises: the first", pairs(3, 0, 2, 1, 1, 2, 0, 3), pairs(3, 0)},
		{"X rises, Y goes up and down", pairs(0, 1, 1, 0, 2, 3, 3, 2, 4, 5, 5, 4), pairs(0, 1, 2, 3, 4, 5)},
		{"the same X several times", pairs(4, 0, 4, 1, 4, 2), pairs(4, 0)},
		{"the same Y several times", pairs(0, 4, 1, 4, 2, 4), pairs(0, 4)},
		{"the same pair several times", pairs(4, 4, 4, 4, 4, 4), pairs(4, 4)},
		{"the same pairs several times", pairs(1, 1, 2, 2, 1, 1, 2, 2), pairs(1, 1, 2, 2)},
		{"the same X among others", pairs(0, 0, 1, 3, 1, 1, 2, 2), pairs(0, 0, 1, 1, 2, 2)},
		{"the same Y among others", pairs(0, 0, 3, 1, 1, 1, 2, 2), pairs(0, 0, 1, 1, 2, 2)},
		{"the same X, Y falling, ahead of a greater one", pairs(1, 3, 1, 2, 1, 1, 2, 4), pairs(1, 3, 2, 4)},
		{"the same X, Y rising, ahead of a greater one", pairs(1, 1, 1, 2, 1, 3, 2, 2), pairs(1, 1, 2, 2)},
		{"the same Y, X rising, ahead of a greater one", pairs(1, 1, 2, 1, 3, 1, 2, 2), pairs(1, 1, 2, 2)},
		{"behind one with the same X a greater Y is of no use", pairs(1, 5, 1, 4, 0, 9, 2, 5), pairs(1, 4, 2, 5)},
		{"several: they part at the first", pairs(0, 1, 1, 0, 2, 2), pairs(0, 1, 2, 2)},
		{"several: they part at the first, which is greater", pairs(5, 5, 0, 0, 6, 6, 1, 1), pairs(5, 5, 6, 6)},
		{"several: they part at the first, and have nothing in common", pairs(5, 0, 0, 5, 1, 6, 6, 1), pairs(5, 0, 6, 1)},
		{"several: they part at the second", pairs(0, 0, 1, 2, 2, 1, 3, 3), pairs(0, 0, 1, 2, 3, 3)},
		{"several: they part at the second, which is greater", pairs(0, 0, 5, 5, 1, 1, 6, 6, 2, 2), pairs(0, 0, 5, 5, 6, 6)},
		{"several: they part at the last", pairs(0, 0, 1, 1, 2, 9, 3, 2), pairs(0, 0, 1, 1, 2, 9)},
		{"several: they part at the last, which is greater", pairs(0, 0, 9, 9, 1, 1), pairs(0, 0, 9, 9)},
		{"several, of one member", pairs(1, 1, 3, 0), pairs(1, 1)},
		{"a longer row, not by the first", pairs(9, 9, 0, 0, 1, 1), pairs(0, 0, 1, 1)},
		{"a longer row, not by the first that fits", pairs(0, 0, 9, 9, 1, 1, 2, 2), pairs(0, 0, 1, 1, 2, 2)},
		{"a longer row, of others than a shorter one ahead of it", pairs(5, 5, 6, 6, 0, 0, 1, 1, 2, 2), pairs(0, 0, 1, 1, 2, 2)},
		{"their order in l counts, not their numbers", pairs(2, 2, 1, 1, 3, 3), pairs(2, 2, 3, 3)},
		{"one that fits the last, though not as the next of a longest row", pairs(0, 0, 3, 3, 1, 4, 2, 5, 4, 6), pairs(0, 0, 1, 4, 2, 5, 4, 6)},
		{"numbers below 0", pairs(-3, -1, -2, -5, -1, -4, 0, -2), pairs(-2, -5, -1, -4, 0, -2)},
		{"numbers below 0 and above", pairs(-1, 1, 1, -1, 0, 0, 1, 1), pairs(-1, -1, 0, 0, 1, 1)[1:]},
		{"numbers as great as an int holds", pairs(math.MinInt, math.MinInt, math.MaxInt, math.MaxInt), pairs(math.MinInt, math.MinInt, math.MaxInt, math.MaxInt)},
		{"numbers as great as an int holds, falling", pairs(math.MaxInt, math.MaxInt, math.MinInt, math.MinInt), pairs(math.MaxInt, math.MaxInt)},
		{"numbers as great as an int holds, X alone", pairs(math.MinInt, 0, math.MaxInt, 0), pairs(math.MinInt, 0)},
		{"numbers as great as an int holds, Y alone", pairs(0, math.MinInt, 0, math.MaxInt), pairs(0, math.MinInt)},
		{"the chapter's first example", pairs(1, 1, 3, 0), pairs(1, 1)},
		{"the chapter's second example", pairs(0, 5, 1, 1, 2, 2, 3, 0), pairs(1, 1, 2, 2)},
	}
}

func TestLongestAtTheEdges(t *testing.T) {
	for _, c := range pairCases() {
		t.Run(c.name, func(t *testing.T) {
			checkLongest(t, c.l, c.want)
			checkLongest(t, c.l, longestOfAll(c.l))
		})
	}
}

// grid is all pairs of so many numbers, from one on.
func grid(from, count int) []patience.Pair {
	var l []patience.Pair
	for _, x := range samples.Count(from, count) {
		for _, y := range samples.Count(from, count) {
			l = append(l, patience.Pair{X: x, Y: y})
		}
	}
	return l
}

func TestLongestOfAllShortLists(t *testing.T) {
	byWords := func(l []patience.Pair) { checkLongest(t, l, longestOfAll(l)) }
	samples.Lists(grid(-1, 3), 5, byWords)
	samples.Lists(grid(0, 4), 4, byWords)
	samples.Lists(grid(0, 2), 7, byWords)
}

// orders hands over every order of so many numbers from 0 on.
func orders(count int, do func(l []int)) {
	if count == 0 {
		do(nil)
		return
	}
	orders(count-1, func(l []int) {
		for at := range count {
			do(slices.Insert(slices.Clone(l), at, count-1))
		}
	})
}

func TestLongestOfAllShortOrders(t *testing.T) {
	for count := range 8 {
		orders(count, func(places []int) {
			var l []patience.Pair
			for i, j := range places {
				l = append(l, patience.Pair{X: i, Y: j})
			}
			checkLongest(t, l, longestOfAll(l))
		})
	}
}

func TestLongestOfLongerLists(t *testing.T) {
	samples.Mixed(3000, 60, func(x, y []int) {
		var l []patience.Pair
		for i := range min(len(x), len(y)) {
			l = append(l, patience.Pair{X: x[i], Y: y[i]})
		}
		checkLongest(t, l, longestByLengths(l))
	})
	var l []patience.Pair
	for i := range 2000 {
		l = append(l, patience.Pair{X: i * i % 1009, Y: i * i * i % 997})
	}
	checkLongest(t, l, longestByLengths(l))
}

func TestLongestHasNoLimit(t *testing.T) {
	const many = 1 << 15
	var up, down, steps, even, flat []patience.Pair
	for i := range many {
		up = append(up, patience.Pair{X: i, Y: i})
		down = append(down, patience.Pair{X: i, Y: -i})
		steps = append(steps, patience.Pair{X: i, Y: i ^ 1}) // 1, 0, 3, 2: of each two only one
		flat = append(flat, patience.Pair{X: i, Y: 5})
		if i%2 == 0 {
			even = append(even, steps[i])
		}
	}
	checkLongest(t, up, up)
	checkLongest(t, samples.Turned(up), up[many-1:])
	checkLongest(t, down, down[:1])
	checkLongest(t, samples.Turned(down), down[many-1:])
	checkLongest(t, steps, even)
	checkLongest(t, flat, flat[:1])
	checkLongest(t, slices.Repeat(up[:2], many/2), up[:2])
}

// Rule R4.

func TestPairsAreLeftAlone(t *testing.T) {
	behind := patience.Pair{X: 99, Y: 99}
	for _, c := range pairCases() {
		l := samples.Spare(c.l, behind)
		checkLongest(t, l, c.want)
		checkLongest(t, l, c.want)
		if !samples.Left(l, c.l, behind) {
			t.Errorf("%v has become %v", c.l, l[:len(l)+1])
		}
	}
}

func TestRowsAreNewMemory(t *testing.T) {
	pair := func(i int) patience.Pair { return patience.Pair{X: i, Y: -i} }
	for _, c := range pairCases() {
		l := samples.Spare(c.l, patience.Pair{})
		row, again := patience.Longest(l), patience.Longest(l)
		if !samples.Apart(pair, row, again, l) {
			t.Errorf("longest of %v: the answers, and the list, have become %v, %v and %v by changes of one another", c.l, row, again, l)
		}
	}
}

func FuzzAnyPairs(f *testing.F) {
	f.Add("", "")
	f.Add("abcd", "fbca")
	f.Add("\xff\x00\x80\x7f", "\x80\xff\x00\x00")
	f.Fuzz(func(t *testing.T, s, u string) {
		var l []patience.Pair
		x, y := samples.Classes(s), samples.Classes(u)
		for i := range min(len(x), len(y), 4096) {
			l = append(l, patience.Pair{X: x[i], Y: y[i]})
		}
		checkLongest(t, l, longestByLengths(l))
	})
}

package patience

import (
	"slices"
	"sort"
)

// Longest is the longest rising row of pairs.
func Longest(l []Pair) []Pair {
	lengths := risingFrom(l)
	left := 0 // how many members are still to come
	for _, length := range lengths {
		left = max(left, length)
	}
	var row []Pair
	for i, p := range l {
		if lengths[i] == left && (len(row) == 0 || p.above(row[len(row)-1])) {
			row = append(row, p)
			left--
		}
	}
	return row
}

// above tells whether p may stand behind q in a rising row.
func (p Pair) above(q Pair) bool {
	return p.X > q.X && p.Y > q.Y
}

// risingFrom is how long the longest rising row is that begins with each member.
func risingFrom(l []Pair) []int {
	lengths := make([]int, len(l))
	var all []heads // all[n]: those of rows of n + 1 members
	for i, p := range slices.Backward(l) {
		// What goes ahead of a row goes ahead of what is left of it without its head: so a search by halves finds the longest.
		n := sort.Search(len(all), func(n int) bool { return !all[n].behind(p) })
		if n == len(all) {
			all = append(all, nil)
		}
		all[n] = all[n].with(p)
		lengths[i] = n + 1
	}
	return lengths
}

// heads is pairs with which rows of one length begin, X falling and Y rising, each of which may also stay as it is.
type heads []Pair

// upTo is the first of the heads whose X is at most so great.
func (h heads) upTo(x int) int {
	return sort.Search(len(h), func(i int) bool { return h[i].X <= x })
}

// behind tells whether one of the heads may stand behind p: of those whose X is great enough, the last one has the greatest Y.
func (h heads) behind(p Pair) bool {
	i := h.upTo(p.X)
	return i > 0 && h[i-1].Y > p.Y
}

// with is the heads and p, behind which none of them may stand. Those that are in no number greater than p are left out: behind whatever they may stand, p may.
func (h heads) with(p Pair) heads {
	greater := sort.Search(len(h), func(i int) bool { return h[i].Y > p.Y })
	return slices.Replace(h, h.upTo(p.X), greater, p)
}

package histogram

import "cmp"

// Run is lines that are the same in both texts.
type Run struct {
	X    int
	Y    int
	N    int
	Rare int
}

// Best is the run to hold on to. It has one of the rarest members of all, so that it is looked for around these alone.
func Best(x, y []int) (Run, bool) {
	times := count(x)
	rare := rarest(times, y)
	if rare == 0 {
		return Run{}, false
	}
	pairs := partners(x, places(y, times, rare))
	var best Run
	for i, at := range pairs {
	next:
		for _, j := range at {
			r := Run{X: i, Y: j, Rare: rare}
			for r.X > 0 && r.Y > 0 && x[r.X-1] == y[r.Y-1] {
				r.X, r.Y = r.X-1, r.Y-1
				if len(pairs[r.X]) > 0 {
					continue next // these places begin no run: a rarest member ahead of them has found the one in which they stand
				}
			}
			r.N = i - r.X + same(x[i:], y[j:])
			if r.outdoes(best) {
				best = r
			}
		}
	}
	return best, true
}

// outdoes tells whether a run is rather held on to than another one that is as rare, or than the zero Run.
func (r Run) outdoes(other Run) bool {
	return cmp.Or(cmp.Compare(r.N, other.N), cmp.Compare(other.X, r.X), cmp.Compare(other.Y, r.Y)) > 0
}

// count is how often each class stands in a text.
func count(text []int) map[int]int {
	times := map[int]int{}
	for _, class := range text {
		times[class]++
	}
	return times
}

// rarest is the least number of times that a class of y was counted; 0, if none was.
func rarest(times map[int]int, y []int) int {
	least := 0
	for _, class := range y {
		if n := times[class]; n > 0 && (least == 0 || n < least) {
			least = n
		}
	}
	return least
}

// places is where each class that was counted so many times stands in y.
func places(y []int, times map[int]int, rare int) map[int][]int {
	at := map[int][]int{}
	for j, class := range y {
		if times[class] == rare {
			at[class] = append(at[class], j)
		}
	}
	return at
}

// partners is where the class of each member of x stands in y; of a class that is not looked for, nowhere.
func partners(x []int, at map[int][]int) [][]int {
	pairs := make([][]int, len(x))
	for i, class := range x {
		pairs[i] = at[class]
	}
	return pairs
}

// same is how many members are the same at the front.
func same(x, y []int) int {
	n := 0
	for n < len(x) && n < len(y) && x[n] == y[n] {
		n++
	}
	return n
}

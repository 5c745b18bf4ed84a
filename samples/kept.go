package samples

import (
	"slices"

	"redline/api"
)

// Framed is what is kept of two texts, of each member of x its place in y, or -1: equal members at the front, then at the end, and of what is left what between says.
func Framed(x, y []int, between func(x, y []int) []int) []int {
	front := 0
	for front < len(x) && front < len(y) && x[front] == y[front] {
		front++
	}
	x, y = x[front:], y[front:]
	n, m := len(x), len(y)
	for n > 0 && m > 0 && x[n-1] == y[m-1] {
		n, m = n-1, m-1
	}
	return slices.Concat(Count(0, front), Shifted(between(x[:n], y[:m]), front), Count(front+m, len(y)-m))
}

// Shifted is what is kept of a piece as what is kept of the whole, in which y's piece begins at a place.
func Shifted(keep []int, at int) []int {
	l := slices.Clone(keep)
	for i, j := range l {
		if j != -1 {
			l[i] = at + j
		}
	}
	return l
}

// None is what is kept of n members where nothing is.
func None(n int) []int {
	return slices.Repeat([]int{-1}, n)
}

// Honest tells whether a script leads from x to y, and all that it keeps is the same in both.
func Honest(script []api.Change, x, y []int) bool {
	a, b := 0, 0
	for _, c := range script {
		if c.A < a || c.B < b || c.AN < 0 || c.BN < 0 || c.AN > len(x)-c.A || c.BN > len(y)-c.B {
			return false
		}
		if !slices.Equal(x[a:c.A], y[b:c.B]) {
			return false
		}
		a, b = c.A+c.AN, c.B+c.BN
	}
	return slices.Equal(x[a:], y[b:])
}

package edits

import (
	"iter"

	"redline/api"
)

// run is lines that are kept: those of a from the line a on make pairs with those of b from the line b on.
type run struct {
	a, b, length int
}

// pieces is a right script from n to m lines, piece by piece: what is kept, and what is changed behind it. Behind the last lines that are kept stands a change of nothing.
func pieces(l []api.Change, n, m int) iter.Seq2[run, api.Change] {
	return func(yield func(run, api.Change) bool) {
		a, b := 0, 0
		for _, c := range l {
			if !yield(run{a: a, b: b, length: c.A - a}, c) {
				return
			}
			a, b = c.A+c.AN, c.B+c.BN
		}
		yield(run{a: a, b: b, length: n - a}, api.Change{A: n, B: m})
	}
}

// runs is what a right script from n to m lines keeps.
func runs(l []api.Change, n, m int) []run {
	var kept []run
	for r := range pieces(l, n, m) {
		kept = append(kept, r)
	}
	return kept
}

// both is what is kept by two scripts, one behind the other. It goes by runs, not by lines: there may be far more lines than changes.
func both(x, y []run) []run {
	var kept []run
	for len(x) > 0 && len(y) > 0 {
		p, q := x[0], y[0]
		from, to := max(p.b, q.a), min(p.b+p.length, q.a+q.length)
		if from < to {
			kept = append(kept, run{a: p.a + (from - p.b), b: q.b + (from - q.a), length: to - from})
		}
		if to == p.b+p.length {
			x = x[1:]
		} else {
			y = y[1:]
		}
	}
	return kept
}

// between is the script from n to m lines that keeps the runs and nothing else. There is none, if it would need a number above MaxNumber.
func between(kept []run, n, m int) ([]api.Change, api.Errno) {
	var l []api.Change
	a, b := 0, 0
	for _, r := range append(kept, run{a: n, b: m}) {
		if r.a > a || r.b > b {
			l = append(l, api.Change{A: a, AN: r.a - a, B: b, BN: r.b - b})
		}
		a, b = r.a+r.length, r.b+r.length
	}
	for _, c := range l {
		if !numbered(c) {
			return nil, api.ErrScript
		}
	}
	return l, api.OK
}

package samples

import (
	"redline/api"
	"redline/engine"
)

// Engines hands over the edit script from a to b that each engine finds.
func Engines(a, b []string, o api.Ignore, do func(l []api.Change)) {
	for _, number := range []int{api.Minimal, api.Patience, api.Histogram, api.Speedy} {
		l, err := engine.Diff(number, a, b, o)
		if err != api.OK {
			panic(err) // tests of the engines themselves do not call this
		}
		do(l)
	}
}

// TextPairs hands over pairs of texts for all engines, with and without their last line feeds, and what is ignored in them: first those in which nothing is.
func TextPairs(do func(a, b []string, o api.Ignore)) {
	plain := func(a, b []string) { do(a, b, api.Ignore{}) }
	Both(2, 3, func(x, y []int) {
		a, b := Text(x), Text(y)
		plain(a, b)
		plain(Unfed(a), b)
		plain(a, Unfed(b))
		plain(Unfed(a), Unfed(b))
	})
	Mixed(40, 60, func(x, y []int) {
		plain(Text(x), Unfed(Text(y)))
		plain(Unfed(Text(x)), Text(y))
	})
	Mixed(4, 900, func(x, y []int) { plain(Text(x), Text(y)) })
	for _, c := range Plain() {
		plain(Text(c.X), Text(c.Y))
	}
	Both(2, 3, func(x, y []int) { do(Unfed(Text(x)), Unfed(Text(y)), api.Ignore{Case: true}) })
	for _, c := range Alikes() {
		do(Right(c.A+"x\n"+c.A, 2), Right(c.B+"y\n"+c.B, 2), c.Ignored)
	}
}

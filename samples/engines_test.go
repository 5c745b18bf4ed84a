package samples_test

import (
	"testing"

	"redline/api"
	"redline/edits"
	"redline/engine"
	"redline/lines"
	"redline/samples"
)

func TestEnginesAreAllFour(t *testing.T) {
	a, b := samples.Named("line", 3), samples.Named("line", 2)
	n := 0
	samples.Engines(a, b, api.Ignore{}, func(l []api.Change) {
		n++
		if edits.Check(l, 3, 2) != api.OK {
			t.Errorf("%v is no script", l)
		}
	})
	if n != 4 || engine.Name(n) == "" || engine.Name(n+1) != "" {
		t.Errorf("%d engines", n)
	}
}

func TestTextPairsAreRightLinesOfAllKinds(t *testing.T) {
	met := map[string]int{}
	ignored := false
	samples.TextPairs(func(a, b []string, o api.Ignore) {
		if lines.Check(a) != api.OK || lines.Check(b) != api.OK || len(a) > api.MaxLines || len(b) > api.MaxLines {
			t.Errorf("%q or %q are no right lines, or too many", a, b)
		}
		for at, l := range [][]string{a, b} {
			if n := len(l); n > 0 {
				if _, fed := lines.Bare(l[n-1]); !fed {
					met[[]string{"old", "new"}[at]]++
				}
			}
		}
		if o == (api.Ignore{}) && ignored {
			t.Errorf("%q and %q: nothing is ignored any more", a, b)
		}
		ignored = o != api.Ignore{}
		met["all"]++
		if ignored {
			met["ignored"]++
		}
	})
	if met["old"] < 20 || met["new"] < 20 || met["ignored"] < 20 || met["all"] < 200 {
		t.Errorf("too few: %v", met)
	}
}

package edits

import (
	"slices"
	"testing"

	"redline/api"
)

// An iterator goes on just as long as it is asked to: that no call shows, for all of them go through to the end.
func TestPiecesStopWhereTheyAreLeft(t *testing.T) {
	l := []api.Change{{A: 1, AN: 1, B: 1}, {A: 3, B: 2, BN: 2}}
	kept := []run{{a: 0, b: 0, length: 1}, {a: 2, b: 1, length: 1}, {a: 3, b: 4, length: 2}}
	changed := append(slices.Clone(l), api.Change{A: 5, B: 6})
	for stop := range 4 {
		var runs []run
		var changes []api.Change
		for r, c := range pieces(l, 5, 6) {
			if len(runs) == stop {
				break
			}
			runs, changes = append(runs, r), append(changes, c)
		}
		if !slices.Equal(runs, kept[:stop]) || !slices.Equal(changes, changed[:stop]) {
			t.Errorf("up to %d: %v, %v", stop, runs, changes)
		}
	}
}

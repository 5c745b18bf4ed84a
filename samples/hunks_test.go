package samples_test

import (
	"errors"
	"slices"
	"testing"

	"redline/api"
	"redline/samples"
)

func TestMarksGoByTheirFirstBytes(t *testing.T) {
	want := []api.Mark{{Sign: ' ', Text: "a\n"}, {Sign: '-', Text: ""}, {Sign: '+', Text: "b\nc"}, {Sign: 'x', Text: "-\n"}, {Sign: 0, Text: "\x00"}}
	if l := samples.Marks(" a\n", "-", "+b\nc", "x-\n", "\x00\x00"); !slices.Equal(l, want) {
		t.Errorf("%q", l)
	}
	if l := samples.Marks(); len(l) != 0 {
		t.Errorf("of nothing: %q", l)
	}
}

func TestHunkHasNumbersAndLines(t *testing.T) {
	h := samples.Hunk([4]int{1, 2, 3, 4}, "-a\n")
	if h.A != 1 || h.AN != 2 || h.B != 3 || h.BN != 4 || len(h.Lines) != 1 || h.Lines[0] != (api.Mark{Sign: '-', Text: "a\n"}) {
		t.Errorf("%+v", h)
	}
}

func TestSameHunkSeesEachDifference(t *testing.T) {
	h := samples.Hunk([4]int{1, 2, 3, 4}, "-a\n", " b\n")
	for _, other := range []api.Hunk{
		samples.Hunk([4]int{2, 2, 3, 4}, "-a\n", " b\n"),
		samples.Hunk([4]int{1, 3, 3, 4}, "-a\n", " b\n"),
		samples.Hunk([4]int{1, 2, 4, 4}, "-a\n", " b\n"),
		samples.Hunk([4]int{1, 2, 3, 5}, "-a\n", " b\n"),
		samples.Hunk([4]int{1, 2, 3, 4}, "+a\n", " b\n"),
		samples.Hunk([4]int{1, 2, 3, 4}, "-a\n", " c\n"),
		samples.Hunk([4]int{1, 2, 3, 4}, "-a\n"),
		samples.Hunk([4]int{1, 2, 3, 4}, "-a\n", " b\n", " b\n"),
		{A: 1, AN: 2, B: 3, BN: 4},
		{},
	} {
		if samples.SameHunk(h, other) || samples.SameHunk(other, h) || samples.SameHunks([]api.Hunk{h, h}, []api.Hunk{h, other}) {
			t.Errorf("%+v counts as %+v", h, other)
		}
	}
	if !samples.SameHunk(h, samples.Hunk([4]int{1, 2, 3, 4}, "-a\n", " b\n")) {
		t.Errorf("%+v is not itself", h)
	}
	if samples.SameHunks([]api.Hunk{h}, []api.Hunk{h, h}) || samples.SameHunks([]api.Hunk{h}, nil) {
		t.Error("rows of different lengths count as the same")
	}
	if !samples.SameHunks(nil, []api.Hunk{}) || !samples.SameHunks([]api.Hunk{{}, h}, []api.Hunk{{Lines: []api.Mark{}}, h}) {
		t.Error("rows that are the same do not count so")
	}
}

func TestSamePatchesSeesEachDifference(t *testing.T) {
	h := samples.Hunk([4]int{1, 1, 1, 0}, "-a\n")
	p := api.Patch{Old: "a", New: "b", Hunks: []api.Hunk{h}}
	for _, other := range []api.Patch{
		{},
		{Old: "x", New: "b", Hunks: []api.Hunk{h}},
		{Old: "a", New: "x", Hunks: []api.Hunk{h}},
		{Old: "b", New: "a", Hunks: []api.Hunk{h}},
		{Old: "a", New: "b"},
		{Old: "a", New: "b", Hunks: []api.Hunk{h, h}},
		{Old: "a", New: "b", Hunks: []api.Hunk{samples.Hunk([4]int{1, 1, 1, 0}, "-b\n")}},
	} {
		if samples.SamePatches([]api.Patch{p, p}, []api.Patch{p, other}) || samples.SamePatches([]api.Patch{other}, []api.Patch{p}) {
			t.Errorf("%+v counts as %+v", p, other)
		}
	}
	if samples.SamePatches([]api.Patch{p}, []api.Patch{p, p}) || samples.SamePatches([]api.Patch{p}, nil) {
		t.Error("rows of different lengths count as the same")
	}
	same := api.Patch{Old: "a", New: "b", Hunks: []api.Hunk{samples.Hunk([4]int{1, 1, 1, 0}, "-a\n")}}
	if !samples.SamePatches(nil, []api.Patch{}) || !samples.SamePatches([]api.Patch{{}, p}, []api.Patch{{Hunks: []api.Hunk{}}, same}) {
		t.Error("rows that are the same do not count so")
	}
}

// wrapped is an error around another one.
type wrapped struct{ error }

// Unwrap is the inner one.
func (w wrapped) Unwrap() error { return w.error }

func TestIsFaultSeesEachDifference(t *testing.T) {
	right := &api.Fault{At: 3, Err: api.ErrText}
	if !samples.IsFault(right, 3, api.ErrText) || !samples.IsFault(&api.Fault{Err: api.ErrLong}, 0, api.ErrLong) {
		t.Error("a fault does not count as one")
	}
	var missing *api.Fault
	for _, err := range []error{
		nil, missing, api.ErrText, errors.New("3: error 3"), wrapped{right}, wrapped{api.ErrText},
		&api.Fault{At: 3}, &api.Fault{At: 3, Err: api.ErrLong}, &api.Fault{At: 4, Err: api.ErrText},
		&api.Fault{At: 3, Err: wrapped{api.ErrText}}, &api.Fault{At: 3, Err: errors.New("error 3")}, &api.Fault{At: 3, Err: right},
	} {
		if samples.IsFault(err, 3, api.ErrText) {
			t.Errorf("%#v counts as the fault", err)
		}
	}
}

func TestOwnFaultsSeesWhatIsShared(t *testing.T) {
	one, calls := &api.Fault{At: 3, Err: api.ErrText}, 0
	if !samples.OwnFaults(func() error { return &api.Fault{At: 3, Err: api.ErrText} }) {
		t.Error("new faults count as shared")
	}
	for _, call := range []func() error{
		func() error { return one },
		func() error { return nil },
		func() error { return api.ErrText },
		func() error { return &api.Fault{At: 3} },
		func() error { return &api.Fault{At: 3, Err: wrapped{api.ErrText}} },
		func() error { calls++; return &api.Fault{At: calls, Err: api.ErrText} },
	} {
		if samples.OwnFaults(call) {
			t.Error("what is shared, another one, or none counts as a fault of its own")
		}
	}
}

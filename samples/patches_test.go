package samples_test

import (
	"testing"

	"redline/api"
	"redline/hunks"
	"redline/samples"
)

func TestWrongHunksAreWrongAsTheyAreSaid(t *testing.T) {
	met := map[api.Errno]int{}
	for _, c := range samples.WrongHunks() {
		if err := hunks.Check(c.Hunk); err != c.Err {
			t.Errorf("%+v is wrong by %d, not by %d", c.Hunk, err, c.Err)
		}
		met[c.Err]++
	}
	for _, err := range []api.Errno{api.ErrRange, api.ErrField, api.ErrCount, api.ErrScript} {
		if met[err] == 0 {
			t.Errorf("none is wrong by %d", err)
		}
	}
}

func TestSignedHunksAreRightIfSomethingChanges(t *testing.T) {
	samples.Texts(" -+", 5, func(signs string) {
		h := samples.SignedHunk(signs)
		want := api.ErrScript
		for i, m := range h.Lines {
			if m.Sign != signs[i] {
				t.Errorf("%q: %+v", signs, h)
			}
			if m.Sign != ' ' {
				want = api.OK
			}
		}
		if err := hunks.Check(h); err != want || len(h.Lines) != len(signs) {
			t.Errorf("%q: %+v is wrong by %d", signs, h, err)
		}
	})
}

func TestEndsAreOfAllKindsAndLeaveTheHunkAlone(t *testing.T) {
	h := samples.Hunk([4]int{1, 2, 1, 2}, " a\n", "-b\n", "+c\n")
	want := samples.Hunk([4]int{1, 2, 1, 2}, " a\n", "-b\n", "+c\n")
	met := map[[3]string]int{}
	samples.Ends(h, func(h api.Hunk) { met[[3]string{h.Lines[0].Text, h.Lines[1].Text, h.Lines[2].Text}]++ })
	for _, l := range [][3]string{{"a\n", "b\n", "c\n"}, {"a", "b\n", "c\n"}, {"a\n", "b", "c\n"}, {"a\n", "b\n", "c"}, {"a\n", "b", "c"}} {
		if met[l] == 0 {
			t.Errorf("%q is not among %v", l, met)
		}
	}
	if !samples.SameHunk(h, want) {
		t.Errorf("the hunk has become %+v", h)
	}
}

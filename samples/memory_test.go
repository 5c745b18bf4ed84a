package samples_test

import (
	"slices"
	"testing"

	"redline/samples"
)

func TestSpareHasSomethingBehindItsEnd(t *testing.T) {
	l := []int{1, 2}
	s := samples.Spare(l, 9)
	if !slices.Equal(s, l) || s[:3][2] != 9 {
		t.Errorf("%v, with %d behind it", s, s[:3][2])
	}
	s[0] = 8
	if l[0] != 1 {
		t.Error("the list itself was changed")
	}
}

func TestLeftSeesEachChange(t *testing.T) {
	l := []int{1, 2}
	for at := range 3 {
		s := samples.Spare(l, 9)
		if !samples.Left(s, l, 9) {
			t.Errorf("%v is not left alone", s)
		}
		s[:3][at] = 7
		if samples.Left(s, l, 9) {
			t.Errorf("%v is left alone, with a change at %d", s, at)
		}
	}
	if !samples.Left(samples.Spare(nil, 9), nil, 9) {
		t.Error("the empty list is not left alone")
	}
}

func TestApartSeesWhatIsShared(t *testing.T) {
	number := func(i int) int { return i }
	all := make([]int, 8)
	for _, c := range []struct {
		name  string
		lists [][]int
		want  bool
	}{
		{"none", nil, true},
		{"empty ones", [][]int{nil, {}}, true},
		{"apart", [][]int{{7, 7}, {7}}, true},
		{"apart in one array", [][]int{all[0:2:2], all[2:4:4]}, true},
		{"the same", [][]int{all, all}, false},
		{"one member shared", [][]int{all[0:2:2], all[1:3:3]}, false},
		{"in the room behind", [][]int{all[0:2:4], all[3:5:5]}, false},
		{"in the room behind, with one that is empty", [][]int{all[0:0], all[3:5:5]}, false},
	} {
		if got := samples.Apart(number, c.lists...); got != c.want {
			t.Errorf("%s: %v, want %v", c.name, got, c.want)
		}
	}
}

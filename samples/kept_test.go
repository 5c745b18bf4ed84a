package samples_test

import (
	"slices"
	"testing"

	"redline/samples"
)

func TestFramedKeepsFrontAndEndAndWhatIsSaidBetween(t *testing.T) {
	for _, c := range []struct {
		name           string
		x, y           []int
		leftX, leftY   []int
		between, whole []int
	}{
		{"no members", nil, nil, nil, nil, nil, nil},
		{"nothing at the ends", []int{1, 2}, []int{2, 3}, []int{1, 2}, []int{2, 3}, []int{-1, 0}, []int{-1, 0}},
		{"a front", []int{7, 1, 2}, []int{7, 2, 3}, []int{1, 2}, []int{2, 3}, []int{-1, 0}, []int{0, -1, 1}},
		{"an end", []int{1, 2, 7}, []int{2, 3, 7}, []int{1, 2}, []int{2, 3}, []int{-1, 0}, []int{-1, 0, 2}},
		{"both", []int{7, 1, 8}, []int{7, 2, 1, 3, 8}, []int{1}, []int{2, 1, 3}, []int{1}, []int{0, 2, 4}},
		{"the front goes ahead of the end", []int{1, 1}, []int{1, 1, 1}, nil, []int{1}, nil, []int{0, 1}},
		{"the front goes ahead of the end, in y", []int{1, 1, 1}, []int{1, 1}, []int{1}, nil, []int{-1}, []int{0, 1, -1}},
	} {
		keep := samples.Framed(c.x, c.y, func(x, y []int) []int {
			if !slices.Equal(x, c.leftX) || !slices.Equal(y, c.leftY) {
				t.Errorf("%s: %v and %v are left", c.name, x, y)
			}
			return c.between
		})
		if !slices.Equal(keep, c.whole) {
			t.Errorf("%s: kept %v, want %v", c.name, keep, c.whole)
		}
	}
}

func TestShiftedLeavesWhatIsNotKept(t *testing.T) {
	keep := []int{-1, 0, 3}
	if l := samples.Shifted(keep, 2); !slices.Equal(l, []int{-1, 2, 5}) || !slices.Equal(keep, []int{-1, 0, 3}) {
		t.Errorf("%v, shifted %v", keep, l)
	}
}

func TestNoneKeepsNothing(t *testing.T) {
	if l := samples.None(2); !slices.Equal(l, []int{-1, -1}) || len(samples.None(0)) != 0 {
		t.Errorf("none of two: %v", l)
	}
}

func TestHonestSeesWhatIsWrong(t *testing.T) {
	x, y := []int{1, 2, 3}, []int{1, 4, 3, 5}
	for _, c := range []struct {
		name string
		rows samples.Rows
		want bool
	}{
		{"right", samples.Rows{{1, 1, 1, 1}, {3, 0, 3, 1}}, true},
		{"right, of all", samples.Rows{{0, 3, 0, 4}}, true},
		{"no changes", nil, false},
		{"keeps another class", samples.Rows{{1, 1, 1, 2}}, false},
		{"keeps another class at the front", samples.Rows{{2, 1, 2, 2}}, false},
		{"keeps more of x", samples.Rows{{1, 1, 0, 4}}, false},
		{"keeps more of y at the end", samples.Rows{{1, 2, 1, 2}}, false},
		{"not in order", samples.Rows{{3, 0, 3, 1}, {1, 1, 1, 1}}, false},
		{"behind the end of x", samples.Rows{{1, 3, 1, 3}}, false},
		{"behind the end of y", samples.Rows{{1, 2, 1, 4}}, false},
		{"below 0", samples.Rows{{-1, 4, 0, 4}}, false},
		{"fewer than none", samples.Rows{{1, 1, 1, 1}, {3, 0, 3, -1}}, false},
	} {
		if got := samples.Honest(c.rows.Changes(), x, y); got != c.want {
			t.Errorf("%s: %v", c.name, got)
		}
	}
}

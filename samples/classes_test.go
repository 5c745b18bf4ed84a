package samples_test

import (
	"fmt"
	"slices"
	"strings"
	"testing"

	"redline/api"
	"redline/samples"
)

func TestBothAreAllPairsOfShortTexts(t *testing.T) {
	n, same := 0, 0
	samples.Both(3, 2, func(x, y []int) {
		n++
		if slices.Equal(x, y) {
			same++
		}
		for _, class := range slices.Concat(x, y) {
			if class < 0 || class > 2 {
				t.Errorf("class %d", class)
			}
		}
		for _, l := range [][]int{x, y} {
			for i := range l {
				l[i] = 99 // new memory: no text handed over later may show it
			}
		}
	})
	if n != 13*13 || same != 13 {
		t.Errorf("%d pairs, %d of them two of the same", n, same)
	}
}

func TestCountGoesUpByOne(t *testing.T) {
	if l := samples.Count(-1, 3); !slices.Equal(l, []int{-1, 0, 1}) {
		t.Errorf("count %v", l)
	}
	if l := samples.Count(5, 0); len(l) != 0 {
		t.Errorf("count of none: %v", l)
	}
}

func TestTurnedLeavesTheListAlone(t *testing.T) {
	l := []int{1, 2, 3}
	if back := samples.Turned(l); !slices.Equal(back, []int{3, 2, 1}) || !slices.Equal(l, []int{1, 2, 3}) {
		t.Errorf("%v, turned about %v", l, back)
	}
}

func TestTextHasALineForEachClass(t *testing.T) {
	want := []string{"line 0\n", "line -1\n", "line 10\n", "line 0\n"}
	if l := samples.Text([]int{0, -1, 10, 0}); !slices.Equal(l, want) {
		t.Errorf("text %q, want %q", l, want)
	}
	if l := samples.Text(nil); len(l) != 0 {
		t.Errorf("text of none: %q", l)
	}
}

func TestNamedLinesAreNumbered(t *testing.T) {
	if l := samples.Named("a", 3); !slices.Equal(l, []string{"a0\n", "a1\n", "a2\n"}) {
		t.Errorf("%q", l)
	}
	if l := samples.Named("a", 0); len(l) != 0 {
		t.Errorf("none: %q", l)
	}
}

func TestClassesGoByBytes(t *testing.T) {
	if l := samples.Classes("a\x00\x80\xff"); !slices.Equal(l, []int{97, 0, -128, -1}) {
		t.Errorf("classes %v", l)
	}
}

func TestOddNamesAreDifferent(t *testing.T) {
	for _, names := range samples.Odd() {
		slices.Sort(names)
		if len(names) != 3 || len(slices.Compact(names)) != 3 {
			t.Errorf("names %v", names)
		}
	}
}

func TestRenamedGoesByPlaces(t *testing.T) {
	if l := samples.Renamed([]int{2, 0, 2, 1}, []int{7, 8, -9}); !slices.Equal(l, []int{-9, 7, -9, 8}) {
		t.Errorf("renamed %v", l)
	}
}

func TestMixedTextsAreOfAllLengthsAndTheSameEachTime(t *testing.T) {
	var told [2][]string
	lengths := map[int]int{}
	for i := range told {
		samples.Mixed(200, 5, func(x, y []int) {
			told[i] = append(told[i], fmt.Sprint(x, y))
			lengths[len(x)]++
			lengths[len(y)]++
		})
	}
	if len(told[0]) != 200 || !slices.Equal(told[0], told[1]) {
		t.Errorf("%d texts, then %d", len(told[0]), len(told[1]))
	}
	if len(lengths) != 6 || lengths[0] == 0 || lengths[5] == 0 {
		t.Errorf("lengths %v", lengths)
	}
}

// The signs of a case must fit its texts, and keep the same classes: else it would ask for what no engine may answer.
func TestCasesFit(t *testing.T) {
	for _, c := range slices.Concat(samples.Plain(), samples.Great(), []samples.Case{samples.Nested(0), samples.Nested(3)}) {
		n := len(c.X) + strings.Count(c.Signs, "+")
		m := len(c.Y) + strings.Count(c.Signs, "-")
		if !samples.Honest(samples.Script(c.Signs), c.X, c.Y) || n != len(c.Signs) || m != len(c.Signs) {
			t.Errorf("%s: %.100q keeps another class, or is of more or fewer members", c.Name, c.Signs)
		}
		if strings.Trim(c.Signs, "=-+") != "" {
			t.Errorf("%s: %.100q has other signs", c.Name, c.Signs)
		}
	}
}

func TestNestedHasAPieceWithinEachPiece(t *testing.T) {
	c := samples.Nested(2)
	if !slices.Equal(c.X, []int{1, 2, 0, 1, -3}) || !slices.Equal(c.Y, []int{-2, 2, -1, 1, -4}) || c.Signs != "-+=-+=-+" {
		t.Errorf("%v, %v, %s", c.X, c.Y, c.Signs)
	}
}

func TestGreatTextsAreAsLongAsMayBe(t *testing.T) {
	for _, c := range samples.Great() {
		if max(len(c.X), len(c.Y)) != api.MaxLines {
			t.Errorf("%s: %d and %d members", c.Name, len(c.X), len(c.Y))
		}
	}
}

func TestSizesAreRefusedAboveTheLimit(t *testing.T) {
	for _, c := range samples.Sizes() {
		if long := c.X > api.MaxLines || c.Y > api.MaxLines; long != (c.Err == api.ErrLong) || !long && c.Err != api.OK {
			t.Errorf("%d and %d members: %d", c.X, c.Y, c.Err)
		}
	}
}

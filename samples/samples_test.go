package samples_test

import (
	"slices"
	"strings"
	"testing"

	"redline/api"
	"redline/edits"
	"redline/samples"
)

func TestTextsAreAllTheShortOnes(t *testing.T) {
	var l []string
	samples.Texts("ab", 2, func(s string) { l = append(l, s) })
	slices.Sort(l)
	if want := []string{"", "a", "aa", "ab", "b", "ba", "bb"}; !slices.Equal(l, want) {
		t.Errorf("texts %q, want %q", l, want)
	}
}

func TestTextsGoByBytes(t *testing.T) {
	var l []string
	samples.Texts("\xff\x00", 1, func(s string) { l = append(l, s) })
	if want := []string{"", "\xff", "\x00"}; !slices.Equal(l, want) {
		t.Errorf("texts %q, want %q", l, want)
	}
}

func TestLinesAreTextsWithoutAndWithAFeed(t *testing.T) {
	var l []string
	samples.Lines("ab", 1, func(line string) { l = append(l, line) })
	slices.Sort(l)
	if want := []string{"", "\n", "a", "a\n", "b", "b\n"}; !slices.Equal(l, want) {
		t.Errorf("lines %q, want %q", l, want)
	}
}

func TestListsAreAllTheShortOnes(t *testing.T) {
	n := 0
	samples.Lists([]int{1, 2, 3}, 3, func(l []int) {
		n++
		if len(l) > 3 {
			t.Errorf("list %v", l)
		}
	})
	if n != 1+3+9+27 {
		t.Errorf("%d lists", n)
	}
	samples.Lists([]int{1}, -1, func(l []int) {
		if len(l) != 0 {
			t.Errorf("list %v of no members", l)
		}
	})
}

func TestIgnoresAreAllChoices(t *testing.T) {
	l := samples.Ignores()
	times := map[api.Ignore]int{}
	for _, o := range l {
		times[o]++
	}
	if len(l) != 64 || len(times) != 64 {
		t.Fatalf("%d choices, %d of them different", len(l), len(times))
	}
	all := api.Ignore{Space: true, White: true, Blank: true, Case: true, Tabs: true, Trail: true}
	if l[0] != (api.Ignore{}) || l[63] != all {
		t.Errorf("the first is %+v, the last %+v", l[0], l[63])
	}
}

// Alikes must not be the same, and there must be some for each kind of difference alone, and for several.
func TestAlikesAreOfEachKind(t *testing.T) {
	alone := map[api.Ignore]int{}
	for _, p := range samples.Alikes() {
		if p.A == p.B {
			t.Errorf("%q is the same", p.A)
		}
		alone[p.Ignored]++
	}
	for _, o := range []api.Ignore{{Space: true}, {White: true}, {Case: true}, {Tabs: true}, {Trail: true}, {Case: true, Space: true}} {
		if alone[o] == 0 {
			t.Errorf("no lines for %+v", o)
		}
	}
}

func TestRowsAreChanges(t *testing.T) {
	if l := (samples.Rows{}).Changes(); len(l) != 0 {
		t.Errorf("no rows: %v", l)
	}
	l := samples.Rows{{1, 2, 3, 4}, {-5, 0, 7, 0}}.Changes()
	if want := []api.Change{{A: 1, AN: 2, B: 3, BN: 4}, {A: -5, B: 7}}; !slices.Equal(l, want) {
		t.Errorf("rows: %v, want %v", l, want)
	}
}

func TestScriptsGoBySigns(t *testing.T) {
	for _, c := range []struct {
		signs string
		want  samples.Rows
	}{
		{"", nil},
		{"==", nil},
		{"-", samples.Rows{{0, 1, 0, 0}}},
		{"+", samples.Rows{{0, 0, 0, 1}}},
		{"-+--", samples.Rows{{0, 3, 0, 1}}},
		{"=-=", samples.Rows{{1, 1, 1, 0}}},
		{"-=-=+", samples.Rows{{0, 1, 0, 0}, {2, 1, 1, 0}, {4, 0, 2, 1}}},
		{"++=-+==+-", samples.Rows{{0, 0, 0, 2}, {1, 1, 3, 1}, {4, 1, 6, 1}}},
	} {
		if l := samples.Script(c.signs); !slices.Equal(l, c.want.Changes()) {
			t.Errorf("script of %q: %v, want %v", c.signs, l, c.want)
		}
	}
}

func TestPairHasALineForEachSign(t *testing.T) {
	for _, c := range []struct{ signs, a, b string }{
		{"", "", ""},
		{"=", "a0\n", "b0\n"},
		{"--", "a0\na1\n", ""},
		{"++", "", "b0\nb1\n"},
		{"=-+=+", "a0\na1\na2\n", "b0\nb1\nb2\nb3\n"},
	} {
		if a, b := samples.Pair(c.signs); strings.Join(a, "") != c.a || strings.Join(b, "") != c.b {
			t.Errorf("%q: %q and %q, want %q and %q", c.signs, a, b, c.a, c.b)
		}
	}
}

func TestWrongScriptsAreWrongBetweenFourLinesAndFour(t *testing.T) {
	for _, l := range samples.WrongScripts() {
		if err := edits.Check(l, 4, 4); err != api.ErrScript {
			t.Errorf("%v: %d", l, err)
		}
	}
}

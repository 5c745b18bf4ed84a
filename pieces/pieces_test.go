package pieces_test

import (
	"slices"
	"testing"

	"redline/api"
	"redline/minimal"
	"redline/pieces"
	"redline/samples"
)

// checkDiff holds the script that find leads to against what it must be.
func checkDiff(t *testing.T, x, y []int, find func(p pieces.Piece), want []api.Change) {
	t.Helper()
	if l, err := pieces.Diff(x, y, find); !slices.Equal(l, want) || err != api.OK {
		t.Errorf("diff of %v and %v: %v, %d, want %v", x, y, l, err, want)
	}
}

func TestFindIsHandedAllOfBothTexts(t *testing.T) {
	samples.Both(2, 3, func(x, y []int) {
		calls := 0
		l, err := pieces.Diff(x, y, func(p pieces.Piece) {
			calls++
			if !slices.Equal(p.X, x) || !slices.Equal(p.Y, y) {
				t.Errorf("%v and %v of %v and %v are handed over", p.X, p.Y, x, y)
			}
		})
		if calls != 1 || err != api.OK || !samples.Honest(l, x, y) {
			t.Errorf("%v and %v: %d calls, %v, %d", x, y, calls, l, err)
		}
	})
}

func TestTooManyMembersAreRefused(t *testing.T) {
	for _, c := range samples.Sizes() {
		calls := 0
		l, err := pieces.Diff(samples.Count(0, c.X), samples.Count(c.X, c.Y), func(pieces.Piece) { calls++ })
		if err != c.Err || err != api.OK && (len(l) != 0 || calls != 0) {
			t.Errorf("%d and %d members: %d, want %d; %d calls", c.X, c.Y, err, c.Err, calls)
		}
	}
}

func TestAPieceIsEmptyWhereOneTextIs(t *testing.T) {
	samples.Both(1, 2, func(x, y []int) {
		if empty := (pieces.Piece{X: x, Y: y}).Empty(); empty != (len(x) == 0 || len(y) == 0) {
			t.Errorf("%v and %v: empty %v", x, y, empty)
		}
	})
}

// whole is two texts that have nothing in common, so that a test says what is kept.
func whole() (x, y []int) {
	return samples.Count(0, 6), samples.Count(10, 7)
}

func TestKeepGoesByPlacesOfThePiece(t *testing.T) {
	x, y := whole()
	for _, c := range []struct {
		name  string
		find  func(p pieces.Piece)
		signs string
	}{
		{"nothing", func(p pieces.Piece) {}, "------+++++++"},
		{"none", func(p pieces.Piece) { p.Keep(2, 3, 0) }, "------+++++++"},
		{"one", func(p pieces.Piece) { p.Keep(2, 3, 1) }, "--+++=---+++"},
		{"several", func(p pieces.Piece) { p.Keep(2, 3, 3) }, "--+++===-+"},
		{"all of x", func(p pieces.Piece) { p.Keep(0, 1, 6) }, "+======"},
		{"from places on", func(p pieces.Piece) { p.From(1, 2).Keep(1, 1, 2) }, "--+++==--++"},
		{"from places on, again", func(p pieces.Piece) { p.From(1, 2).From(1, 1).Keep(0, 0, 2) }, "--+++==--++"},
		{"up to places", func(p pieces.Piece) { p.UpTo(4, 5).Keep(2, 3, 2) }, "--+++==--++"},
		{"up to places, from places on", func(p pieces.Piece) { p.UpTo(4, 5).From(1, 2).Keep(1, 1, 2) }, "--+++==--++"},
		{"from places on, up to places", func(p pieces.Piece) { p.From(1, 2).UpTo(3, 3).Keep(1, 1, 2) }, "--+++==--++"},
		{"at places", func(p pieces.Piece) { p.KeepAt([]int{-1, 0, -1, 4, 5, -1}) }, "-=-+++==-+"},
		{"at no places", func(p pieces.Piece) { p.KeepAt(samples.None(6)) }, "------+++++++"},
		{"at places of a piece", func(p pieces.Piece) { p.UpTo(4, 5).From(1, 2).KeepAt([]int{-1, 1, 2}) }, "--+++==--++"},
		{"in two pieces", func(p pieces.Piece) {
			p.UpTo(2, 2).Keep(1, 0, 1)
			p.From(3, 4).Keep(0, 1, 1)
		}, "-=-++++=--+"},
	} {
		t.Run(c.name, func(t *testing.T) { checkDiff(t, x, y, c.find, samples.Script(c.signs)) })
	}
}

func TestPiecesHaveTheMembersBetweenTheirPlaces(t *testing.T) {
	x, y := whole()
	p := pieces.Piece{}
	pieces.Diff(x, y, func(all pieces.Piece) { p = all.From(1, 2).UpTo(4, 3) })
	if !slices.Equal(p.X, x[1:5]) || !slices.Equal(p.Y, y[2:5]) {
		t.Errorf("%v and %v", p.X, p.Y)
	}
}

func TestEqualEndsAreKept(t *testing.T) {
	ends := func(p pieces.Piece) { p.KeepEnds() }
	for _, c := range samples.Plain() {
		t.Run(c.Name, func(t *testing.T) { checkDiff(t, c.X, c.Y, ends, samples.Script(c.Signs)) })
	}
	checkDiff(t, []int{7, 1, 2, 8}, []int{7, 2, 1, 8}, ends, samples.Script("=--++="))
}

func TestWhatIsLeftBetweenEqualEnds(t *testing.T) {
	samples.Both(2, 6, func(x, y []int) {
		left := pieces.Piece{}
		l, _ := pieces.Diff(x, y, func(p pieces.Piece) { left = p.KeepEnds() })
		wantX, wantY := x, y
		samples.Framed(x, y, func(x, y []int) []int {
			wantX, wantY = x, y
			return samples.None(len(x))
		})
		if !slices.Equal(left.X, wantX) || !slices.Equal(left.Y, wantY) || !samples.Honest(l, x, y) {
			t.Errorf("of %v and %v %v and %v are left, want %v and %v; %v", x, y, left.X, left.Y, wantX, wantY, l)
		}
	})
}

func TestMostIsKeptAsTheLeastScriptDoes(t *testing.T) {
	samples.Both(3, 4, func(x, y []int) {
		want, _ := minimal.Diff(x, y)
		checkDiff(t, x, y, pieces.Piece.KeepMost, want)
	})
	within := func(p pieces.Piece) { p.UpTo(4, 5).From(1, 2).KeepMost() }
	checkDiff(t, []int{9, 1, 2, 3, 9}, []int{9, 9, 2, 3, 1, 9}, within, samples.Script("--++==-++"))
}

func TestTextsAreLeftAlone(t *testing.T) {
	for _, c := range samples.Plain() {
		x, y := samples.Spare(c.X, 99), samples.Spare(c.Y, 99)
		checkDiff(t, x, y, func(p pieces.Piece) { p.KeepEnds().KeepMost() }, samples.Script(c.Signs))
		if !samples.Left(x, c.X, 99) || !samples.Left(y, c.Y, 99) {
			t.Errorf("%v and %v have become %v and %v", c.X, c.Y, x[:len(x)+1], y[:len(y)+1])
		}
	}
}

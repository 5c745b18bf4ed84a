// Package pieces is what the engines share that take two texts apart: pieces of the texts, and what of them is kept. It is no layer of its own, and calls edits and minimal, as each of these engines may.
package pieces

import (
	"slices"

	"redline/api"
	"redline/edits"
	"redline/minimal"
)

// Piece is a piece of each of two texts, which are rows of classes.
type Piece struct {
	X, Y []int
	y    int   // where Y begins in its text
	keep []int // a piece of the list that all pieces of the texts note together: with which place of y each member of X makes a pair, or -1
}

// Diff is the edit script that keeps what find keeps, which is handed all of both texts.
func Diff(x, y []int, find func(p Piece)) ([]api.Change, api.Errno) {
	if len(x) > api.MaxLines || len(y) > api.MaxLines {
		return nil, api.ErrLong
	}
	keep := slices.Repeat([]int{-1}, len(x))
	find(Piece{X: x, Y: y, keep: keep})
	return edits.Make(keep, len(y))
}

// Empty tells whether one of the pieces has no members, so that there is nothing to keep.
func (p Piece) Empty() bool {
	return len(p.X) == 0 || len(p.Y) == 0
}

// UpTo is what stands ahead of a place of X and one of Y.
func (p Piece) UpTo(x, y int) Piece {
	return Piece{X: p.X[:x], Y: p.Y[:y], y: p.y, keep: p.keep[:x]}
}

// From is what stands from a place of X and one of Y on.
func (p Piece) From(x, y int) Piece {
	return Piece{X: p.X[x:], Y: p.Y[y:], y: p.y + y, keep: p.keep[x:]}
}

// Keep keeps n members, from a place of X and one of Y on.
func (p Piece) Keep(x, y, n int) {
	for i := range n {
		p.keep[x+i] = p.y + y + i
	}
}

// KeepEnds keeps equal members at the front, then at the end, and is what is left between them.
func (p Piece) KeepEnds() Piece {
	for !p.Empty() && p.X[0] == p.Y[0] {
		p.Keep(0, 0, 1)
		p = p.From(1, 1)
	}
	for !p.Empty() && p.X[len(p.X)-1] == p.Y[len(p.Y)-1] {
		x, y := len(p.X)-1, len(p.Y)-1
		p.Keep(x, y, 1)
		p = p.UpTo(x, y)
	}
	return p
}

// KeepAt keeps each member of X with the place of Y that stands for it in a list of all of them, or not at all where that is -1.
func (p Piece) KeepAt(places []int) {
	for x, y := range places {
		if y != -1 {
			p.Keep(x, y, 1)
		}
	}
}

// KeepMost keeps what the least edit script keeps. No error is looked at: the pieces are no longer than the texts, which have been let in.
func (p Piece) KeepMost() {
	script, _ := minimal.Diff(p.X, p.Y)
	places, _ := edits.Keep(script, len(p.X), len(p.Y))
	p.KeepAt(places)
}

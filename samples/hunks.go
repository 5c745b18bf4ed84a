package samples

import (
	"errors"
	"slices"

	"redline/api"
)

// Marks is lines with signs, out of texts: of each the first byte is the sign, and the rest the line, whatever it is.
func Marks(texts ...string) []api.Mark {
	var l []api.Mark
	for _, text := range texts {
		l = append(l, api.Mark{Sign: text[0], Text: text[1:]})
	}
	return l
}

// Hunk is a hunk out of its numbers, A, AN, B and BN, and what Marks makes of texts.
func Hunk(numbers [4]int, texts ...string) api.Hunk {
	return api.Hunk{A: numbers[0], AN: numbers[1], B: numbers[2], BN: numbers[3], Lines: Marks(texts...)}
}

// SameHunk tells whether two hunks are the same.
func SameHunk(x, y api.Hunk) bool {
	return x.A == y.A && x.AN == y.AN && x.B == y.B && x.BN == y.BN && slices.Equal(x.Lines, y.Lines)
}

// SameHunks tells whether two rows of hunks are the same.
func SameHunks(x, y []api.Hunk) bool {
	return slices.EqualFunc(x, y, SameHunk)
}

// SamePatches tells whether two rows of patches are the same.
func SamePatches(x, y []api.Patch) bool {
	return slices.EqualFunc(x, y, func(p, q api.Patch) bool {
		return p.Old == q.Old && p.New == q.New && SameHunks(p.Hunks, q.Hunks)
	})
}

// IsFault tells whether an error is a fault at that place, with that number itself, and errors.As and errors.Is find them.
func IsFault(err error, at int, code api.Errno) bool {
	fault, plain := err.(*api.Fault)
	if !plain || fault == nil {
		return false
	}
	number, plain := fault.Err.(api.Errno)
	var found *api.Fault
	return plain && number == code && fault.At == at && errors.As(err, &found) && found == fault && errors.Is(err, code)
}

// OwnFaults tells whether two calls of the same answer a fault each of their own: who changes the first one does not change the second.
func OwnFaults(call func() error) bool {
	first, ok := call().(*api.Fault)
	if !ok {
		return false
	}
	at := first.At
	code, ok := first.Err.(api.Errno)
	*first = api.Fault{At: at + 1}
	return ok && IsFault(call(), at, code)
}

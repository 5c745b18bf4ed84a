package samples

import (
	"slices"

	"redline/api"
)

// Marks is lines with signs, out of texts: of each the first byte is the sign, and the rest the line, whatever it is.
func Marks(texts ...string) []api.Mark {
	var l []api.Mark
	for _, text := range texts {
		l = append(l, api.Mark{Sign: text[0], Text: text[1:]})
	}
	return l
}

// Hunk is a hunk out of its numbers, A, AN, B and BN, and what Marks makes of texts.
func Hunk(numbers [4]int, texts ...string) api.Hunk {
	return api.Hunk{A: numbers[0], AN: numbers[1], B: numbers[2], BN: numbers[3], Lines: Marks(texts...)}
}

// SameHunk tells whether two hunks are the same.
func SameHunk(x, y api.Hunk) bool {
	return x.A == y.A && x.AN == y.AN && x.B == y.B && x.BN == y.BN && slices.Equal(x.Lines, y.Lines)
}

// SameHunks tells whether two rows of hunks are the same.
func SameHunks(x, y []api.Hunk) bool {
	return slices.EqualFunc(x, y, SameHunk)
}

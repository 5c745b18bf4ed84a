package samples

import "slices"

// Spare is a list with something behind its end.
func Spare[T any](l []T, behind T) []T {
	return append(slices.Clone(l), behind)[:len(l)]
}

// Left tells whether a list that Spare has made, and what stands behind its end, is what it was.
func Left[T comparable](l, want []T, behind T) bool {
	return slices.Equal(l, want) && l[:len(l)+1][len(l)] == behind
}

// Apart fills lists, and the room behind them, each with something of its own, and tells whether none of it shows in another list.
func Apart[T comparable](fill func(i int) T, lists ...[]T) bool {
	for i, l := range lists {
		for j := range l {
			l[j] = fill(i)
		}
	}
	for i, l := range lists {
		room := l[len(l):cap(l)]
		for j := range room {
			room[j] = fill(len(lists) + i)
		}
	}
	for i, l := range lists {
		if slices.ContainsFunc(l, func(x T) bool { return x != fill(i) }) {
			return false
		}
	}
	return true
}

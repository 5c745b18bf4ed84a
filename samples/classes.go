package samples

import (
	"math"
	"slices"
	"strconv"
	"strings"

	"redline/api"
)

// Both hands over every pair of texts of at most length members out of so many classes, from 0 on; each as new memory.
func Both(classes, length int, do func(x, y []int)) {
	var l [][]int
	Lists(Count(0, classes), length, func(x []int) { l = append(l, x) })
	for _, x := range l {
		for _, y := range l {
			do(slices.Clone(x), slices.Clone(y))
		}
	}
}

// Mixed hands over count pairs of texts of all lengths up to a greatest one, of few and of many classes; the same ones at each call.
func Mixed(count, length int, do func(x, y []int)) {
	state := uint64(1)
	next := func(below int) int {
		state = state*6364136223846793005 + 1442695040888963407
		return int(state >> 33 % uint64(below))
	}
	for range count {
		classes := 2 + next(length)
		var l [2][]int
		for side := range l {
			for range next(length + 1) {
				l[side] = append(l[side], next(classes))
			}
		}
		do(l[0], l[1])
	}
}

// Count is so many numbers from one on, each greater by one than the one ahead.
func Count(from, length int) []int {
	l := make([]int, length)
	for i := range l {
		l[i] = from + i
	}
	return l
}

// Turned is a list turned about.
func Turned[T any](l []T) []T {
	l = slices.Clone(l)
	slices.Reverse(l)
	return l
}

// Text is a line for each class, the same one just for the same class.
func Text(x []int) []string {
	l := make([]string, len(x))
	for i, class := range x {
		l[i] = "line " + strconv.Itoa(class) + "\n"
	}
	return l
}

// Named is n lines, each with a name of its own: the one given, and its number from 0 on.
func Named(name string, n int) []string {
	l := make([]string, n)
	for i := range l {
		l[i] = name + strconv.Itoa(i) + "\n"
	}
	return l
}

// Classes is a class a byte, some of them below 0.
func Classes(s string) []int {
	l := make([]int, len(s))
	for i := range len(s) {
		l[i] = int(int8(s[i]))
	}
	return l
}

// Odd is names for three classes, each row of another kind: which ones are the same counts alone, not which numbers they have.
func Odd() [][]int {
	return [][]int{
		{-1, -2, -3},
		{math.MinInt, 0, math.MaxInt},
		{math.MaxInt, -1, math.MaxInt - 1},
		{math.MinInt, math.MinInt + 1, 1},
		{0, 1 << 32, 1 << 16},
	}
}

// Renamed is a text whose classes, from 0 on, have the names that stand at their places.
func Renamed(x, names []int) []int {
	l := make([]int, len(x))
	for i, class := range x {
		l[i] = names[class]
	}
	return l
}

// Case is two texts as rows of classes, and what is done with each line, in Script's signs.
type Case struct {
	Name  string
	X, Y  []int
	Signs string
}

// Plain is pairs of texts of which every engine keeps the same: all that they have in common stands at their front or their end.
func Plain() []Case {
	return []Case{
		{"no members", nil, nil, ""},
		{"no members, empty lists", []int{}, []int{}, ""},
		{"none in x", nil, []int{1, 2}, "++"},
		{"none in y", []int{1, 2}, nil, "--"},
		{"the same, one member", []int{1}, []int{1}, "="},
		{"the same", []int{1, 2, 3, 1}, []int{1, 2, 3, 1}, "===="},
		{"nothing in common, one each", []int{1}, []int{2}, "-+"},
		{"nothing in common", []int{1, 2, 3}, []int{4, 5}, "---++"},
		{"nothing in common, the same ones several times", []int{1, 1, 1}, []int{2, 2}, "---++"},
		{"x is y's front", []int{1, 2}, []int{1, 2, 3, 4}, "==++"},
		{"x is y's end", []int{3, 4}, []int{1, 2, 3, 4}, "++=="},
		{"y is x's front", []int{1, 2, 3, 4}, []int{1, 2}, "==--"},
		{"y is x's end", []int{1, 2, 3, 4}, []int{3, 4}, "--=="},
		{"equal at the front alone", []int{1, 2, 3}, []int{1, 2, 4, 5}, "==-++"},
		{"equal at the end alone", []int{3, 1, 2}, []int{4, 5, 1, 2}, "-++=="},
		{"equal at the front and at the end", []int{1, 2, 3}, []int{1, 4, 3}, "=-+="},
		{"front and end meet in x", []int{1, 2}, []int{1, 3, 2}, "=+="},
		{"front and end meet in y", []int{1, 3, 2}, []int{1, 2}, "=-="},
		{"front and end would have more than all of x", []int{1, 1}, []int{1, 1, 1}, "==+"},
		{"front and end would have more than all of y", []int{1, 1, 1}, []int{1, 1}, "==-"},
		{"front and end would have more than all of x, in turns", []int{1, 2, 1}, []int{1, 2, 1, 2, 1}, "===++"},
		{"front and end would have more than all of y, in turns", []int{1, 2, 1, 2, 1}, []int{1, 2, 1}, "===--"},
		{"several times in x, once in y", []int{1, 1}, []int{1}, "=-"},
		{"once in x, several times in y", []int{1}, []int{1, 1}, "=+"},
		{"the end is not held fast, in x", []int{1, 2, 1}, []int{1}, "=--"},
		{"the end is not held fast, in y", []int{1}, []int{1, 2, 1}, "=++"},
		{"several times, others between", []int{1, 2, 1}, []int{1, 1}, "=-="},
		{"only the class 0", []int{0}, []int{0, 0, 0}, "=++"},
		{"a class and its opposite", []int{-1, 1}, []int{1}, "-="},
	}
}

// Nested is texts of which each piece has just one line that is there once in both, and behind it a piece of the same kind: what stands ahead of that line takes from the piece behind it what would be there once in the whole.
func Nested(depth int) Case {
	var x, y []int
	for n := depth; n > 0; n-- {
		x = append(x, n-1, n)
		y = append(y, -n, n)
	}
	return Case{"pieces within pieces", append(x, -depth-1), append(y, -depth-2), strings.Repeat("-+=", depth) + "-+"}
}

// Great is pairs of texts as long as may be, of which the engines that hold on to rare lines keep the same.
func Great() []Case {
	const most, half = api.MaxLines, api.MaxLines / 2
	all, ones := Count(0, most), slices.Repeat([]int{1}, most)
	signs := func(sign string) string { return strings.Repeat(sign, most) }
	same, goes, comes := signs("="), signs("-"), signs("+")
	return []Case{
		{"the same", all, all, same},
		{"the same member", ones, ones, same},
		{"nothing in common", all, Count(most, most), goes + comes},
		{"none in x", nil, all, comes},
		{"none in y", all, nil, goes},
		{"the first has gone to the end", all, slices.Concat(all[1:], all[:1]), "-" + same[1:] + "+"},
		{"the last has come to the front", all, slices.Concat(all[most-1:], all[:most-1]), "+" + same[1:] + "-"},
		{"turned about", all, Turned(all), comes[1:] + "=" + goes[1:]},
		{"halves exchanged", all, slices.Concat(all[half:], all[:half]), comes[half:] + same[half:] + goes[half:]},
		{"one of many", ones, []int{1}, "=" + goes[1:]},
		{"one in the middle of many", []int{half}, all, comes[half:] + "=" + comes[half+1:]},
	}
}

// Size is how many members two texts have, and what an engine says of so many.
type Size struct {
	X, Y int
	Err  api.Errno
}

// Sizes is as many members as may be compared, and more: in x, in y, in both.
func Sizes() []Size {
	const most = api.MaxLines
	return []Size{
		{most, 0, api.OK},
		{0, most, api.OK},
		{most, most, api.OK},
		{most + 1, 0, api.ErrLong},
		{0, most + 1, api.ErrLong},
		{most + 1, most, api.ErrLong},
		{most, most + 1, api.ErrLong},
		{most + 1, most + 1, api.ErrLong},
		{1 << 22, 1, api.ErrLong},
		{1, 1 << 22, api.ErrLong},
		{1 << 22, 1 << 22, api.ErrLong},
	}
}

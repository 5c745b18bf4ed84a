package edits_test

import (
	"math"
	"slices"
	"strconv"
	"testing"

	"redline/api"
	"redline/edits"
	"redline/samples"
)

type rows = samples.Rows

// keptBy hands over every list of what is kept of n lines in m lines, each once.
func keptBy(n, m int, do func(keep []int)) {
	var members []int
	for line := -1; line < m; line++ {
		members = append(members, line)
	}
	samples.Lists(members, n, func(keep []int) {
		if len(keep) == n && rising(keep) {
			do(keep)
		}
	})
}

// rising tells whether the members that are not -1 stand in order, none twice.
func rising(keep []int) bool {
	l := slices.DeleteFunc(slices.Clone(keep), func(line int) bool { return line == -1 })
	return slices.IsSorted(l) && len(slices.Compact(l)) == len(keep)-count(keep, -1)
}

// count is how often a number stands in a list.
func count(l []int, number int) int {
	times := 0
	for _, n := range l {
		if n == number {
			times++
		}
	}
	return times
}

// scriptByWords is the right edit script of which keep is what is kept, line by line: each line that makes no pair widens the change at its place.
func scriptByWords(keep []int, m int) []api.Change {
	var l []api.Change
	i, j, open := 0, 0, false
	change := func() *api.Change {
		if !open {
			l, open = append(l, api.Change{A: i, B: j}), true
		}
		return &l[len(l)-1]
	}
	for i < len(keep) || j < m {
		switch {
		case i < len(keep) && keep[i] == -1:
			change().AN++
			i++
		case i < len(keep) && keep[i] == j:
			i, j, open = i+1, j+1, false
		default:
			change().BN++
			j++
		}
	}
	return l
}

// scripts hands over every right edit script from n to m lines, with what it keeps.
func scripts(n, m int, do func(l []api.Change, keep []int)) {
	keptBy(n, m, func(keep []int) { do(scriptByWords(keep, m), keep) })
}

// sizes hands over every row of numbers of lines, each at most most.
func sizes(count, most int, do func(n []int)) {
	var members []int
	for n := range most + 1 {
		members = append(members, n)
	}
	samples.Lists(members, count, func(n []int) {
		if len(n) == count {
			do(n)
		}
	})
}

// checkCheck holds Check against what it must answer.
func checkCheck(t *testing.T, l []api.Change, n, m int, want api.Errno) {
	t.Helper()
	if err := edits.Check(l, n, m); err != want {
		t.Errorf("check of %v from %d to %d lines: %d, want %d", l, n, m, err, want)
	}
}

// checkMake holds Make against what it must answer.
func checkMake(t *testing.T, keep []int, m int, want []api.Change, code api.Errno) {
	t.Helper()
	l, err := edits.Make(keep, m)
	if !slices.Equal(l, want) || err != code {
		t.Errorf("the script that keeps %v of %d lines: %v, %d, want %v, %d", keep, m, l, err, want, code)
	}
}

// checkKeep holds Keep against what it must answer.
func checkKeep(t *testing.T, l []api.Change, n, m int, want []int, code api.Errno) {
	t.Helper()
	keep, err := edits.Keep(l, n, m)
	if !slices.Equal(keep, want) || err != code {
		t.Errorf("%v from %d to %d lines keeps %v, %d, want %v, %d", l, n, m, keep, err, want, code)
	}
}

// checkApply holds Apply against what it must answer.
func checkApply(t *testing.T, l []api.Change, a, b, want []string, code api.Errno) {
	t.Helper()
	text, err := edits.Apply(l, a, b)
	if !slices.Equal(text, want) || err != code {
		t.Errorf("%v makes of %q with %q: %q, %d, want %q, %d", l, a, b, text, err, want, code)
	}
}

// checkCompose holds Compose against what it must answer.
func checkCompose(t *testing.T, x, y []api.Change, n, m, k int, want []api.Change, code api.Errno) {
	t.Helper()
	l, err := edits.Compose(x, y, n, m, k)
	if !slices.Equal(l, want) || err != code {
		t.Errorf("%v and %v of %d, %d and %d lines: %v, %d, want %v, %d", x, y, n, m, k, l, err, want, code)
	}
}

// rightCase is a right script, and how many lines there are.
type rightCase struct {
	name string
	l    []api.Change
	n, m int
	keep []int
}

// rightCases are the edges of what is right.
func rightCases() []rightCase {
	return []rightCase{
		{"no lines at all", nil, 0, 0, nil},
		{"an empty list", []api.Change{}, 0, 0, nil},
		{"all is kept", nil, 3, 3, []int{0, 1, 2}},
		{"no line in a", rows{{0, 0, 0, 3}}.Changes(), 0, 3, nil},
		{"no line in b", rows{{0, 3, 0, 0}}.Changes(), 3, 0, []int{-1, -1, -1}},
		{"all is changed", rows{{0, 2, 0, 3}}.Changes(), 2, 3, []int{-1, -1}},
		{"ahead of all, taken out", rows{{0, 1, 0, 0}}.Changes(), 3, 2, []int{-1, 0, 1}},
		{"ahead of all, put in", rows{{0, 0, 0, 1}}.Changes(), 2, 3, []int{1, 2}},
		{"behind all, taken out", rows{{2, 1, 2, 0}}.Changes(), 3, 2, []int{0, 1, -1}},
		{"behind all, put in", rows{{2, 0, 2, 1}}.Changes(), 2, 3, []int{0, 1}},
		{"in the middle", rows{{1, 2, 1, 1}}.Changes(), 4, 3, []int{0, -1, -1, 2}},
		{"one line between", rows{{0, 1, 0, 1}, {2, 0, 2, 1}}.Changes(), 2, 3, []int{-1, 1}},
		{"out, then in", rows{{0, 2, 0, 0}, {3, 0, 1, 2}}.Changes(), 4, 4, []int{-1, -1, 0, 3}},
		{"in, then out", rows{{0, 0, 0, 2}, {1, 2, 3, 0}}.Changes(), 4, 4, []int{2, -1, -1, 3}},
		{"both ends", rows{{0, 1, 0, 2}, {3, 1, 4, 0}}.Changes(), 4, 4, []int{-1, 2, 3, -1}},
		{"three changes", rows{{0, 1, 0, 0}, {2, 0, 1, 1}, {3, 1, 3, 2}}.Changes(), 4, 5, []int{-1, 0, 2, -1}},
	}
}

// wrongCase is a list of changes that is no right script from n to m lines.
type wrongCase struct {
	name string
	l    []api.Change
	n, m int
}

// wrongCases are the edges of what is wrong.
func wrongCases() []wrongCase {
	const top = api.MaxNumber
	return []wrongCase{
		{"n below 0", nil, -1, 0},
		{"m below 0", nil, 0, -1},
		{"both below 0", nil, -1, -1},
		{"both far below 0", nil, math.MinInt, math.MinInt},
		{"n far below 0", nil, math.MinInt, 0},
		{"m far below 0", nil, 0, math.MinInt},
		{"a change where n is below 0", rows{{0, 0, 0, 1}}.Changes(), -1, 0},
		{"a change where m is below 0", rows{{0, 1, 0, 0}}.Changes(), 0, -1},
		{"a change where n is far below 0", rows{{1, 1, 1, 1}}.Changes(), math.MinInt, math.MinInt},
		{"n so far below 0 that what is left of it wraps round", rows{{1, 1, 1, 0}}.Changes(), math.MinInt, math.MaxInt},
		{"m so far below 0 that what is left of it wraps round", rows{{1, 0, 1, 1}}.Changes(), math.MaxInt, math.MinInt},
		{"no change, but more lines in a", nil, 1, 0},
		{"no change, but more lines in b", nil, 0, 1},
		{"too few taken out", rows{{0, 1, 0, 0}}.Changes(), 3, 1},
		{"too few put in", rows{{0, 0, 0, 1}}.Changes(), 1, 3},
		{"more lines ahead in a", rows{{1, 1, 0, 1}}.Changes(), 2, 1},
		{"more lines ahead in b", rows{{0, 1, 1, 1}}.Changes(), 1, 2},
		{"more lines behind in a", rows{{0, 1, 0, 1}}.Changes(), 3, 2},
		{"more lines behind in b", rows{{0, 1, 0, 1}}.Changes(), 2, 3},
		{"more lines between in a", rows{{0, 1, 0, 1}, {3, 1, 2, 1}}.Changes(), 4, 3},
		{"more lines between in b", rows{{0, 1, 0, 1}, {2, 1, 3, 1}}.Changes(), 3, 4},
		{"what is too many between is too few behind", rows{{0, 1, 0, 1}, {3, 0, 2, 1}}.Changes(), 4, 4},
		{"nothing between", rows{{0, 1, 0, 1}, {1, 0, 1, 1}}.Changes(), 2, 3},
		{"nothing between, far from the front", rows{{2, 1, 2, 0}, {3, 1, 2, 0}}.Changes(), 5, 3},
		{"nothing between an in and an out", rows{{0, 0, 0, 1}, {0, 1, 1, 0}}.Changes(), 1, 1},
		{"the same change twice", rows{{0, 1, 0, 1}, {0, 1, 0, 1}}.Changes(), 1, 1},
		{"the same in twice", rows{{0, 0, 0, 1}, {0, 0, 0, 1}}.Changes(), 0, 1},
		{"out of order", rows{{2, 1, 2, 1}, {0, 1, 0, 1}}.Changes(), 3, 3},
		{"one over another", rows{{0, 2, 0, 2}, {1, 2, 1, 2}}.Changes(), 3, 3},
		{"one over another in a alone", rows{{0, 2, 0, 0}, {1, 1, 0, 0}}.Changes(), 3, 1},
		{"behind the end", rows{{3, 1, 3, 1}}.Changes(), 2, 2},
		{"over the end", rows{{1, 2, 1, 2}}.Changes(), 2, 2},
		{"over the end of a", rows{{1, 2, 1, 1}}.Changes(), 2, 2},
		{"over the end of b", rows{{1, 1, 1, 2}}.Changes(), 2, 2},
		{"a change of nothing", rows{{0, 0, 0, 0}}.Changes(), 0, 0},
		{"a change of nothing within", rows{{1, 0, 1, 0}}.Changes(), 2, 2},
		{"a change of nothing behind one", rows{{0, 1, 0, 1}, {2, 0, 2, 0}}.Changes(), 2, 2},
		{"A below 0", rows{{-1, 1, 0, 1}}.Changes(), 0, 1},
		{"A and B below 0", rows{{-1, 1, -1, 1}}.Changes(), 0, 0},
		{"AN below 0", rows{{1, -1, 1, 0}}.Changes(), 0, 1},
		{"BN below 0", rows{{1, 0, 1, -1}}.Changes(), 1, 0},
		{"AN and BN below 0", rows{{1, -1, 1, -1}}.Changes(), 1, 1},
		{"AN below 0, BN above", rows{{1, -1, 1, 1}}.Changes(), 1, 3},
		{"A and B far below 0", rows{{math.MinInt, 1, math.MinInt, 1}}.Changes(), 1, 1},
		{"A and B above MaxNumber", rows{{top + 1, 1, top + 1, 1}}.Changes(), top + 2, top + 2},
		{"AN above MaxNumber", rows{{0, top + 1, 0, 0}}.Changes(), top + 1, 0},
		{"BN above MaxNumber", rows{{0, 0, 0, top + 1}}.Changes(), 0, top + 1},
		{"A alone above MaxNumber", rows{{0, 1, 0, 0}, {top + 1, 1, top, 1}}.Changes(), top + 2, top + 1},
		{"B alone above MaxNumber", rows{{0, 0, 0, 1}, {top, 1, top + 1, 1}}.Changes(), top + 1, top + 2},
		{"sums above an int, in a", rows{{1, math.MaxInt, 1, 0}}.Changes(), math.MinInt, 1},
		{"sums above an int", rows{{1, math.MaxInt, 1, math.MaxInt}}.Changes(), 1, 1},
		{"sums above an int that come out right", rows{{math.MaxInt, math.MaxInt, math.MaxInt, math.MaxInt}}.Changes(), 0, 0},
		{"sums above an int that come to nothing", rows{{0, math.MaxInt, 0, math.MaxInt}, {1, math.MinInt, 1, math.MinInt}}.Changes(), 3, 3},
		{"sums above an int of 32 bits", rows{{top, top, top, top}}.Changes(), top, top},
		{"far less than n and m", rows{{1, 1, 1, 0}}.Changes(), math.MaxInt, math.MaxInt},
		{"far more lines in a", nil, math.MaxInt, 0},
		{"far more lines in b", nil, 0, math.MaxInt},
	}
}

// Promise 5.1.

func TestCheckOfEdges(t *testing.T) {
	for _, c := range rightCases() {
		t.Run(c.name, func(t *testing.T) { checkCheck(t, c.l, c.n, c.m, api.OK) })
	}
	for _, c := range wrongCases() {
		t.Run(c.name, func(t *testing.T) { checkCheck(t, c.l, c.n, c.m, api.ErrScript) })
	}
}

func TestCheckAtGreatNumbers(t *testing.T) {
	const top = api.MaxNumber
	for _, c := range []struct {
		l    []api.Change
		n, m int
	}{
		{nil, top, top},
		{nil, math.MaxInt, math.MaxInt},
		{rows{{top, 0, top, 1}}.Changes(), top, top + 1},
		{rows{{top, 1, top, 0}}.Changes(), top + 1, top},
		{rows{{0, top, 0, 0}}.Changes(), top, 0},
		{rows{{0, 0, 0, top}}.Changes(), 0, top},
		{rows{{0, top, 0, top}}.Changes(), top, top},
		{rows{{top, top, top, top}}.Changes(), 2 * top, 2 * top},
		{rows{{0, 0, 0, 1}, {top - 1, 1, top, 1}}.Changes(), top, top + 1},
		{rows{{0, 1, 0, 1}, {top, 1, top, 1}}.Changes(), math.MaxInt, math.MaxInt},
		{rows{{0, top, 0, 0}}.Changes(), math.MaxInt, math.MaxInt - top},
		{rows{{top, top, top, 0}}.Changes(), math.MaxInt, math.MaxInt - top},
	} {
		checkCheck(t, c.l, c.n, c.m, api.OK)
		checkCheck(t, c.l, c.n-1, c.m, api.ErrScript)
		checkCheck(t, c.l, c.n, c.m-1, api.ErrScript)
	}
}

// key is a list of at most four changes as something that can be looked up.
type key struct {
	length  int
	changes [4]api.Change
}

// keyOf is a list's key.
func keyOf(l []api.Change) key {
	k := key{length: len(l)}
	copy(k.changes[:], l)
	return k
}

// rightOnes is every right script between texts of at most most lines, with the numbers of lines that it leads from and to.
func rightOnes(most int) map[key][][2]int {
	right := map[key][][2]int{}
	sizes(2, most, func(n []int) {
		scripts(n[0], n[1], func(l []api.Change, _ []int) {
			right[keyOf(l)] = append(right[keyOf(l)], [2]int{n[0], n[1]})
		})
	})
	return right
}

// checkAllSizes holds Check of a list against the right ones, at all numbers of lines from -1 to most.
func checkAllSizes(t *testing.T, l []api.Change, right map[key][][2]int, most int) {
	t.Helper()
	between := right[keyOf(l)]
	for n := -1; n <= most; n++ {
		for m := -1; m <= most; m++ {
			want := api.ErrScript
			if slices.Contains(between, [2]int{n, m}) {
				want = api.OK
			}
			checkCheck(t, l, n, m, want)
		}
	}
}

// A script is right just if it is the one that some list of what is kept makes.
func TestCheckOfAllShortLists(t *testing.T) {
	const most = 3
	right := rightOnes(most)
	var changes []api.Change
	numbers := []int{-1, 0, 1, 2, 3}
	samples.Lists(numbers, 4, func(n []int) {
		if len(n) == 4 {
			changes = append(changes, api.Change{A: n[0], AN: n[1], B: n[2], BN: n[3]})
		}
	})
	samples.Lists(changes, 2, func(l []api.Change) { checkAllSizes(t, l, right, most) })
}

func TestCheckOfScriptsThatAreNearlyRight(t *testing.T) {
	const most = 5
	right := rightOnes(most)
	for k := range right {
		l := k.changes[:k.length]
		checkAllSizes(t, l, right, most)
		for i := range l {
			checkAllSizes(t, slices.Delete(slices.Clone(l), i, i+1), right, most)
			if len(l) < 4 {
				checkAllSizes(t, slices.Insert(slices.Clone(l), i, l[i]), right, most)
			}
			for _, by := range []int{-2, -1, 1, 2} {
				for field := range 4 {
					near := slices.Clone(l)
					*[]*int{&near[i].A, &near[i].AN, &near[i].B, &near[i].BN}[field] += by
					checkAllSizes(t, near, right, most)
				}
			}
		}
		back := slices.Clone(l)
		slices.Reverse(back)
		checkAllSizes(t, back, right, most)
	}
}

func TestMakeOfEdges(t *testing.T) {
	const top = api.MaxNumber
	for _, c := range rightCases() {
		t.Run(c.name, func(t *testing.T) { checkMake(t, c.keep, c.m, c.l, api.OK) })
	}
	for _, c := range []struct {
		name string
		keep []int
		m    int
		want []api.Change
	}{
		{"the chapter's example", []int{0, -1, 2}, 4, rows{{1, 1, 1, 1}, {3, 0, 3, 1}}.Changes()},
		{"-1 alone", []int{-1}, 1, rows{{0, 1, 0, 1}}.Changes()},
		{"-1 alone, into nothing", []int{-1, -1}, 0, rows{{0, 2, 0, 0}}.Changes()},
		{"the last line of b", []int{2}, 3, rows{{0, 0, 0, 2}}.Changes()},
		{"neighbours in a alone", []int{0, 2}, 3, rows{{1, 0, 1, 1}}.Changes()},
		{"neighbours in b alone", []int{0, -1, 1}, 2, rows{{1, 1, 1, 0}}.Changes()},
		{"m at MaxNumber", nil, top, rows{{0, 0, 0, top}}.Changes()},
		{"m at MaxNumber, and a line", []int{-1}, top, rows{{0, 1, 0, top}}.Changes()},
		{"a pair at MaxNumber", []int{top}, top + 1, rows{{0, 0, 0, top}}.Changes()},
		{"a change at MaxNumber", []int{top - 1, -1}, top, rows{{0, 0, 0, top - 1}, {1, 1, top, 0}}.Changes()},
		{"changes on both sides of MaxNumber", []int{top - 1}, 2 * top, rows{{0, 0, 0, top - 1}, {1, 0, top, top}}.Changes()},
	} {
		t.Run(c.name, func(t *testing.T) { checkMake(t, c.keep, c.m, c.want, api.OK) })
	}
}

func TestMakeOfWrongLists(t *testing.T) {
	const top = api.MaxNumber
	for _, c := range []struct {
		name string
		keep []int
		m    int
	}{
		{"m below 0", nil, -1},
		{"m far below 0", nil, math.MinInt},
		{"m below 0, and -1 alone", []int{-1, -1}, -1},
		{"m below 0, and a pair", []int{0}, -1},
		{"m 0, and a pair", []int{0}, 0},
		{"below -1", []int{-2}, 3},
		{"far below -1", []int{math.MinInt}, 3},
		{"below -1, behind a pair", []int{0, -2}, 3},
		{"at m", []int{3}, 3},
		{"at m, behind a pair", []int{2, 3}, 3},
		{"above m", []int{4}, 3},
		{"far above m", []int{math.MaxInt}, 3},
		{"a pair at the top of an int", []int{math.MaxInt}, math.MaxInt},
		{"the same twice", []int{1, 1}, 3},
		{"the same twice, with -1 between", []int{1, -1, 1}, 3},
		{"0 twice", []int{0, 0}, 3},
		{"less than the one ahead", []int{2, 1}, 3},
		{"less than the one ahead, with -1 between", []int{2, -1, -1, 0}, 3},
		{"less than the greatest, more than the first", []int{0, 2, 1}, 3},
		{"a number of lines that no change can tell", nil, top + 1},
		{"a change that begins above MaxNumber", []int{top, -1}, top + 1},
	} {
		t.Run(c.name, func(t *testing.T) { checkMake(t, c.keep, c.m, nil, api.ErrScript) })
	}
}

func TestMakeOfAllShortLists(t *testing.T) {
	samples.Lists([]int{-2, -1, 0, 1, 2, 3}, 4, func(keep []int) {
		for m := -2; m <= 4; m++ {
			right := m >= 0 && rising(keep) && !slices.ContainsFunc(keep, func(line int) bool { return line < -1 || line >= m })
			if right {
				checkMake(t, keep, m, scriptByWords(keep, m), api.OK)
			} else {
				checkMake(t, keep, m, nil, api.ErrScript)
			}
		}
	})
}

func TestMakeAnswersRightScripts(t *testing.T) {
	sizes(2, 5, func(n []int) {
		keptBy(n[0], n[1], func(keep []int) {
			l, err := edits.Make(keep, n[1])
			if err != api.OK {
				t.Errorf("making %v of %d lines: %d", keep, n[1], err)
			}
			checkCheck(t, l, n[0], n[1], api.OK)
		})
	})
}

func TestKeepOfEdges(t *testing.T) {
	for _, c := range rightCases() {
		t.Run(c.name, func(t *testing.T) { checkKeep(t, c.l, c.n, c.m, c.keep, api.OK) })
	}
	for _, c := range wrongCases() {
		t.Run(c.name, func(t *testing.T) { checkKeep(t, c.l, c.n, c.m, nil, api.ErrScript) })
	}
	checkKeep(t, rows{{1, 1, 1, 1}, {3, 0, 3, 1}}.Changes(), 3, 4, []int{0, -1, 2}, api.OK)
	checkKeep(t, rows{{0, 0, 0, api.MaxNumber}}.Changes(), 2, api.MaxNumber+2, []int{api.MaxNumber, api.MaxNumber + 1}, api.OK)
}

func TestKeepOfAllShortScripts(t *testing.T) {
	sizes(2, 5, func(n []int) {
		scripts(n[0], n[1], func(l []api.Change, keep []int) { checkKeep(t, l, n[0], n[1], keep, api.OK) })
	})
}

// No list can hold so many lines; what is asked for is refused, not tried.
func TestKeepOfTooManyLines(t *testing.T) {
	for _, n := range []int{api.MaxNumber + 1, math.MaxInt} {
		checkKeep(t, nil, n, n, nil, api.ErrLong)
		checkKeep(t, nil, n, n-1, nil, api.ErrScript)
	}
}

// manyChanges is a script of count changes, with a line between each two.
func manyChanges(count int) ([]api.Change, []int, int) {
	var l []api.Change
	var keep []int
	for i := range count {
		l = append(l, api.Change{A: 2 * i, AN: 1, B: 3 * i, BN: 2})
		keep = append(keep, -1, 3*i+2)
	}
	return l, keep, 3 * count
}

func TestScriptsHaveNoLimit(t *testing.T) {
	l, keep, m := manyChanges(3*api.MaxLines + 1)
	n := len(keep)
	checkCheck(t, l, n, m, api.OK)
	checkMake(t, keep, m, l, api.OK)
	checkKeep(t, l, n, m, keep, api.OK)
	checkCompose(t, l, edits.Invert(l), n, m, n, scriptOfPairs(n), api.OK)
	checkCompose(t, edits.Invert(l), l, m, n, m, edits.Invert(scriptBack(m)), api.OK)
	b := samples.Named("b", m)
	a := make([]string, n)
	for i, line := range keep {
		if line >= 0 {
			a[i] = b[line]
		}
	}
	checkApply(t, l, a, b, b, api.OK)
	if cost := edits.Cost(l); cost != 3*len(l) {
		t.Errorf("cost %d, want %d", cost, 3*len(l))
	}
}

// scriptOfPairs changes every second of n lines, into one.
func scriptOfPairs(n int) []api.Change {
	var l []api.Change
	for i := 0; i < n; i += 2 {
		l = append(l, api.Change{A: i, AN: 1, B: i, BN: 1})
	}
	return l
}

// scriptBack changes two of every three of m lines, into two.
func scriptBack(m int) []api.Change {
	var l []api.Change
	for i := 0; i < m; i += 3 {
		l = append(l, api.Change{A: i, AN: 2, B: i, BN: 2})
	}
	return l
}

// Promise 5.2.

func TestApplyOfEdges(t *testing.T) {
	for _, c := range rightCases() {
		t.Run(c.name, func(t *testing.T) {
			a, b := samples.Named("a", c.n), samples.Named("b", c.m)
			checkApply(t, c.l, a, b, appliedByWords(a, b, c.keep), api.OK)
		})
	}
	for _, c := range []struct {
		name          string
		l             []api.Change
		a, b, applied []string
	}{
		{"the chapter's example", rows{{1, 1, 1, 1}}.Changes(), []string{"a", "b", "c"}, []string{"x", "y", "z"}, []string{"a", "y", "c"}},
		{"all is kept", nil, []string{"a", "b"}, []string{"x", "y"}, []string{"a", "b"}},
		{"nothing is kept", rows{{0, 2, 0, 1}}.Changes(), []string{"a", "b"}, []string{"x"}, []string{"x"}},
		{"taken out", rows{{1, 1, 1, 0}}.Changes(), []string{"a", "b", "c"}, []string{"x", "z"}, []string{"a", "c"}},
		{"put in", rows{{1, 0, 1, 1}}.Changes(), []string{"a", "c"}, []string{"x", "y", "z"}, []string{"a", "y", "c"}},
		{"texts that are no lines", rows{{0, 1, 0, 2}}.Changes(), []string{"", "a\nb"}, []string{"\n\n", "", "z"}, []string{"\n\n", "", "a\nb"}},
	} {
		t.Run(c.name, func(t *testing.T) { checkApply(t, c.l, c.a, c.b, c.applied, api.OK) })
	}
}

// appliedByWords is what a script makes: of each line of b the line of a with which it makes a pair, if there is one; else itself.
func appliedByWords(a, b []string, keep []int) []string {
	l := slices.Clone(b)
	for i, line := range keep {
		if line != -1 {
			l[line] = a[i]
		}
	}
	return l
}

func TestApplyOfAllShortScripts(t *testing.T) {
	sizes(2, 5, func(n []int) {
		a, b := samples.Named("a", n[0]), samples.Named("b", n[1])
		scripts(n[0], n[1], func(l []api.Change, keep []int) {
			checkApply(t, l, a, b, appliedByWords(a, b, keep), api.OK)
		})
	})
}

func TestApplyOfListsThatDoNotFit(t *testing.T) {
	for _, c := range wrongCases() {
		if c.n >= 0 && c.n < 9 && c.m >= 0 && c.m < 9 {
			checkApply(t, c.l, samples.Named("a", c.n), samples.Named("b", c.m), nil, api.ErrScript)
		}
	}
	for _, c := range rightCases() {
		a, b := samples.Named("a", c.n), samples.Named("b", c.m)
		more := []string{"more"}
		checkApply(t, c.l, slices.Concat(a, more), b, nil, api.ErrScript)
		checkApply(t, c.l, a, slices.Concat(b, more), nil, api.ErrScript)
		if c.n > 0 {
			checkApply(t, c.l, a[1:], b, nil, api.ErrScript)
		}
		if c.m > 0 {
			checkApply(t, c.l, a, b[1:], nil, api.ErrScript)
		}
	}
}

// Promise 5.3.

func TestInvertOfEdges(t *testing.T) {
	for _, c := range []struct{ l, back []api.Change }{
		{nil, nil},
		{[]api.Change{}, nil},
		{rows{{1, 2, 1, 0}}.Changes(), rows{{1, 0, 1, 2}}.Changes()},
		{rows{{1, 2, 3, 4}}.Changes(), rows{{3, 4, 1, 2}}.Changes()},
		{rows{{0, 1, 0, 0}, {2, 0, 1, 1}}.Changes(), rows{{0, 0, 0, 1}, {1, 1, 2, 0}}.Changes()},
		{rows{{5, 6, 7, 8}, {1, 2, 3, 4}, {1, 2, 3, 4}}.Changes(), rows{{7, 8, 5, 6}, {3, 4, 1, 2}, {3, 4, 1, 2}}.Changes()},
		{rows{{0, 0, 0, 0}}.Changes(), rows{{0, 0, 0, 0}}.Changes()},
		{rows{{-1, math.MinInt, math.MaxInt, -2}}.Changes(), rows{{math.MaxInt, -2, -1, math.MinInt}}.Changes()},
	} {
		if back := edits.Invert(c.l); !slices.Equal(back, c.back) {
			t.Errorf("%v the other way round: %v, want %v", c.l, back, c.back)
		}
		if l := edits.Invert(c.back); !slices.Equal(l, c.l) {
			t.Errorf("%v the other way round: %v, want %v", c.back, l, c.l)
		}
	}
}

func TestCostOfEdges(t *testing.T) {
	const top = api.MaxNumber
	for _, c := range []struct {
		l    []api.Change
		want int
	}{
		{nil, 0},
		{[]api.Change{}, 0},
		{rows{{0, 0, 0, 0}}.Changes(), 0},
		{rows{{7, 0, 8, 0}}.Changes(), 0},
		{rows{{7, 1, 8, 0}}.Changes(), 1},
		{rows{{7, 0, 8, 1}}.Changes(), 1},
		{rows{{7, 2, 8, 3}}.Changes(), 5},
		{rows{{1, 1, 1, 1}, {3, 0, 3, 1}}.Changes(), 3},
		{rows{{1, 2, 0, 0}, {1, 2, 0, 0}}.Changes(), 4},
		{rows{{0, -1, 0, 0}}.Changes(), 0},
		{rows{{0, 0, 0, -1}}.Changes(), 0},
		{rows{{0, -5, 0, 3}}.Changes(), 3},
		{rows{{0, 3, 0, -5}}.Changes(), 3},
		{rows{{-9, 3, -9, 5}}.Changes(), 8},
		{rows{{0, 3, 0, 4}, {0, -5, 0, -6}, {0, 1, 0, 0}}.Changes(), 8},
		{rows{{0, math.MinInt, 0, math.MinInt}}.Changes(), 0},
		{rows{{0, math.MinInt, 0, 2}, {0, 1, 0, math.MinInt}}.Changes(), 3},
		{rows{{0, top - 1, 0, 0}}.Changes(), top - 1},
		{rows{{0, top, 0, 0}}.Changes(), top},
		{rows{{0, 0, 0, top}}.Changes(), top},
		{rows{{0, top, 0, -1}}.Changes(), top},
		{rows{{0, top - 1, 0, 1}}.Changes(), top},
		{rows{{0, top - 2, 0, 0}, {0, 0, 0, 1}}.Changes(), top - 1},
		{rows{{0, top - 1, 0, 0}, {0, 0, 0, 1}}.Changes(), top},
		{rows{{0, top, 0, 1}}.Changes(), top},
		{rows{{0, 1, 0, top}}.Changes(), top},
		{rows{{0, top + 1, 0, 0}}.Changes(), top},
		{rows{{0, 0, 0, top + 1}}.Changes(), top},
		{rows{{0, top, 0, top}}.Changes(), top},
		{rows{{0, top, 0, 0}, {0, -7, 0, -7}}.Changes(), top},
		{rows{{0, top + 9, 0, -9}, {0, -9, 0, 0}}.Changes(), top},
		{rows{{0, math.MaxInt, 0, math.MaxInt}}.Changes(), top},
		{rows{{0, math.MaxInt, 0, math.MaxInt}, {0, 2, 0, 0}}.Changes(), top},
		{slices.Repeat(rows{{0, math.MaxInt, 0, 1}}.Changes(), 4), top},
		{slices.Repeat(rows{{0, 1 << 20, 0, 0}}.Changes(), 1<<11-1), 1<<31 - 1<<20},
		{slices.Repeat(rows{{0, 1 << 20, 0, 0}}.Changes(), 1<<11), top},
	} {
		if cost := edits.Cost(c.l); cost != c.want {
			t.Errorf("cost of %.99v: %d, want %d", c.l, cost, c.want)
		}
		if cost := edits.Cost(edits.Invert(c.l)); cost != c.want {
			t.Errorf("cost of %.99v the other way round: %d, want %d", c.l, cost, c.want)
		}
	}
}

func TestCostIsTheLinesThatMakeNoPair(t *testing.T) {
	sizes(2, 4, func(n []int) {
		scripts(n[0], n[1], func(l []api.Change, keep []int) {
			out := count(keep, -1)
			if cost := edits.Cost(l); cost != out+n[1]-(n[0]-out) {
				t.Errorf("cost of %v, which keeps %v of %d lines: %d", l, keep, n[1], cost)
			}
		})
	})
}

// Promise 5.4.

// composedByWords is what is kept on the whole way.
func composedByWords(x, y []int) []int {
	keep := slices.Clone(x)
	for i, line := range x {
		if line != -1 {
			keep[i] = y[line]
		}
	}
	return keep
}

func TestComposeOfEdges(t *testing.T) {
	for _, c := range []struct {
		name    string
		x, y    []api.Change
		n, m, k int
		want    []api.Change
	}{
		{"the chapter's example", rows{{0, 1, 0, 0}}.Changes(), rows{{0, 0, 0, 1}}.Changes(), 2, 1, 2, rows{{0, 1, 0, 1}}.Changes()},
		{"no lines", nil, nil, 0, 0, 0, nil},
		{"both keep all", nil, nil, 3, 3, 3, nil},
		{"no lines on the way", rows{{0, 2, 0, 0}}.Changes(), rows{{0, 0, 0, 2}}.Changes(), 2, 0, 2, rows{{0, 2, 0, 2}}.Changes()},
		{"lines on the way alone", rows{{0, 0, 0, 2}}.Changes(), rows{{0, 2, 0, 0}}.Changes(), 0, 2, 0, nil},
		{"what was put in goes", rows{{1, 0, 1, 2}}.Changes(), rows{{1, 2, 1, 0}}.Changes(), 2, 4, 2, nil},
		{"what was put in goes in part", rows{{1, 0, 1, 2}}.Changes(), rows{{1, 1, 1, 0}}.Changes(), 2, 4, 3, rows{{1, 0, 1, 1}}.Changes()},
		{"what was taken out comes again", rows{{1, 2, 1, 0}}.Changes(), rows{{1, 0, 1, 2}}.Changes(), 4, 2, 4, rows{{1, 2, 1, 2}}.Changes()},
		{"changes that come to touch", rows{{0, 1, 0, 1}}.Changes(), rows{{1, 1, 1, 1}}.Changes(), 3, 3, 3, rows{{0, 2, 0, 2}}.Changes()},
		{"changes that stay apart", rows{{0, 1, 0, 1}}.Changes(), rows{{2, 1, 2, 1}}.Changes(), 3, 3, 3, rows{{0, 1, 0, 1}, {2, 1, 2, 1}}.Changes()},
		{"the same place twice", rows{{1, 1, 1, 1}}.Changes(), rows{{1, 1, 1, 1}}.Changes(), 3, 3, 3, rows{{1, 1, 1, 1}}.Changes()},
		{"the second keeps nothing", rows{{1, 1, 1, 0}}.Changes(), rows{{0, 2, 0, 1}}.Changes(), 3, 2, 1, rows{{0, 3, 0, 1}}.Changes()},
		{"the first keeps nothing", rows{{0, 1, 0, 2}}.Changes(), rows{{1, 0, 1, 1}}.Changes(), 1, 2, 3, rows{{0, 1, 0, 3}}.Changes()},
		{"over two changes", rows{{0, 0, 0, 1}, {2, 1, 3, 0}}.Changes(), rows{{1, 2, 1, 0}}.Changes(), 4, 4, 2, rows{{0, 3, 0, 1}}.Changes()},
		{"one run in three", rows{{1, 1, 1, 1}, {3, 1, 3, 1}}.Changes(), nil, 5, 5, 5, rows{{1, 1, 1, 1}, {3, 1, 3, 1}}.Changes()},
	} {
		t.Run(c.name, func(t *testing.T) { checkCompose(t, c.x, c.y, c.n, c.m, c.k, c.want, api.OK) })
	}
}

func TestComposeOfAllShortScripts(t *testing.T) {
	sizes(3, 4, func(n []int) {
		scripts(n[0], n[1], func(x []api.Change, p []int) {
			scripts(n[1], n[2], func(y []api.Change, q []int) {
				checkCompose(t, x, y, n[0], n[1], n[2], scriptByWords(composedByWords(p, q), n[2]), api.OK)
			})
		})
	})
}

func TestComposeOfWrongScripts(t *testing.T) {
	for _, c := range wrongCases() {
		checkCompose(t, c.l, nil, c.n, c.m, c.m, nil, api.ErrScript)
		checkCompose(t, nil, c.l, c.n, c.n, c.m, nil, api.ErrScript)
		checkCompose(t, c.l, c.l, c.n, c.m, c.m, nil, api.ErrScript)
		checkCompose(t, nil, c.l, 3, c.n, c.m, nil, api.ErrScript)
		checkCompose(t, c.l, nil, c.n, c.m, 3, nil, api.ErrScript)
	}
	right := rows{{0, 1, 0, 1}}.Changes()
	for _, n := range [][3]int{{-1, 2, 2}, {2, -1, 2}, {2, 2, -1}, {3, 2, 2}, {2, 3, 2}, {2, 2, 3}, {2, 3, 3}, {3, 3, 2}, {0, 0, 0}, {0, 2, 2}, {2, 0, 2}, {2, 2, 0}, {math.MinInt, 2, 2}, {2, math.MinInt, 2}, {2, 2, math.MinInt}} {
		checkCompose(t, right, right, n[0], n[1], n[2], nil, api.ErrScript)
	}
}

// A few changes may be of very long texts: composing them takes no longer for that.
func TestComposeOfLongTexts(t *testing.T) {
	const top = api.MaxNumber
	checkCompose(t, nil, nil, math.MaxInt, math.MaxInt, math.MaxInt, nil, api.OK)
	x, y := rows{{0, 1, 0, 1}, {top, 1, top, 0}}.Changes(), rows{{0, 0, 0, 1}, {top - 1, 1, top, 1}}.Changes()
	checkCompose(t, x, nil, math.MaxInt, math.MaxInt-1, math.MaxInt-1, x, api.OK)
	checkCompose(t, nil, y, math.MaxInt-1, math.MaxInt-1, math.MaxInt, y, api.OK)
	checkCompose(t, x, y, math.MaxInt, math.MaxInt-1, math.MaxInt, rows{{0, 1, 0, 2}, {top - 1, 2, top, 1}}.Changes(), api.OK)
	checkCompose(t, y, edits.Invert(y), 2*top, 2*top+1, 2*top, rows{{top - 1, 1, top - 1, 1}}.Changes(), api.OK)
	in := rows{{5, 0, 5, top}}.Changes()
	checkCompose(t, in, edits.Invert(in), 9, top+9, 9, nil, api.OK)
	checkCompose(t, edits.Invert(in), in, top+9, 9, top+9, rows{{5, top, 5, top}}.Changes(), api.OK)
}

// Two right scripts may need a change together whose numbers no right script has.
func TestComposeThatNoScriptCanTell(t *testing.T) {
	const top = api.MaxNumber
	for _, c := range []struct {
		x, y    []api.Change
		n, m, k int
	}{
		{rows{{0, 0, 0, top}}.Changes(), rows{{0, 0, 0, 1}}.Changes(), 0, top, top + 1},
		{rows{{0, 1, 0, 0}}.Changes(), rows{{0, top, 0, 0}}.Changes(), top + 1, top, 0},
		{rows{{0, top, 0, 0}}.Changes(), rows{{top, 1, top, 1}}.Changes(), 2*top + 1, top + 1, top + 1},
		{rows{{top, 1, top, 1}}.Changes(), rows{{0, 0, 0, 1}}.Changes(), top + 1, top + 1, top + 2},
	} {
		checkCheck(t, c.x, c.n, c.m, api.OK)
		checkCheck(t, c.y, c.m, c.k, api.OK)
		checkCompose(t, c.x, c.y, c.n, c.m, c.k, nil, api.ErrScript)
	}
}

// Rule R4.

// checkSpare tells whether a list, and what stands behind its end, is what it was.
func checkSpare[T comparable](t *testing.T, l, want []T, behind T) {
	t.Helper()
	if !samples.Left(l, want, behind) {
		t.Errorf("%v has become %v, with %v behind it", want, l, l[:len(l)+1][len(l)])
	}
}

func TestListsAreLeftAlone(t *testing.T) {
	behind := api.Change{A: 9, AN: 9, B: 9, BN: 9}
	keep, long := []int{0, -1, 2}, []string{"a", "b", "c"}
	x, y := rows{{1, 1, 1, 1}, {3, 0, 3, 1}}.Changes(), rows{{0, 1, 0, 0}}.Changes()
	k, p, q := samples.Spare(keep, 9), samples.Spare(x, behind), samples.Spare(y, behind)
	a, b := samples.Spare(long, "behind"), samples.Spare([]string{"x", "y", "z", "u"}, "behind")
	edits.Check(p, 3, 4)
	edits.Make(k, 4)
	edits.Keep(p, 3, 4)
	edits.Apply(p, a, b)
	edits.Invert(p)
	edits.Cost(p)
	edits.Compose(p, q, 3, 4, 3)
	checkSpare(t, k, keep, 9)
	checkSpare(t, p, x, behind)
	checkSpare(t, q, y, behind)
	checkSpare(t, a, long, "behind")
	checkSpare(t, b, []string{"x", "y", "z", "u"}, "behind")
}

// checkApart holds two answers and what was handed in against each other: they are apart.
func checkApart[T comparable](t *testing.T, call func() []T, handedIn []T, fill func(i int) T) {
	t.Helper()
	if l, again := call(), call(); !samples.Apart(fill, l, again, handedIn) {
		t.Errorf("two answers, and what was handed in, have become %v, %v and %v by changes of one another", l, again, handedIn)
	}
}

func TestAnswersAreNewMemory(t *testing.T) {
	number := func(i int) int { return i }
	change := func(i int) api.Change { return api.Change{A: i} }
	script := rows{{1, 1, 1, 1}, {3, 0, 3, 1}}.Changes()
	kept := func(l []api.Change, err api.Errno) []api.Change { return l }

	checkApart(t, func() []api.Change { return kept(edits.Make([]int{0, -1, 2}, 4)) }, nil, change)
	checkApart(t, func() []int { l, _ := edits.Keep(rows{{1, 1, 1, 1}, {3, 0, 3, 1}}.Changes(), 3, 4); return l }, nil, number)
	l := slices.Clone(script)
	checkApart(t, func() []api.Change { return edits.Invert(l) }, l, change)
	x := slices.Clone(script)
	checkApart(t, func() []api.Change { return kept(edits.Compose(x, nil, 3, 4, 4)) }, x, change)
	y := slices.Clone(script)
	checkApart(t, func() []api.Change { return kept(edits.Compose(nil, y, 3, 3, 4)) }, y, change)
}

func TestAppliedTextsAreNewMemory(t *testing.T) {
	name := func(i int) string { return strconv.Itoa(i) }
	for _, l := range [][]api.Change{nil, rows{{0, 2, 0, 2}}.Changes(), rows{{1, 1, 1, 1}}.Changes()} {
		for side := range 2 {
			texts := [2][]string{{"a", "b"}, {"x", "y"}}
			call := func() []string {
				text, _ := edits.Apply(l, texts[0], texts[1])
				return text
			}
			checkApart(t, call, texts[side], name)
		}
	}
}

// Promise 5.5.

func TestMakeAndKeepUndoOneAnother(t *testing.T) {
	sizes(2, 5, func(n []int) {
		keptBy(n[0], n[1], func(keep []int) {
			l, err := edits.Make(keep, n[1])
			checkKeep(t, l, n[0], n[1], keep, err)
			again, err := edits.Keep(l, n[0], n[1])
			checkMake(t, again, n[1], l, err)
		})
	})
}

func TestInvertGoesBack(t *testing.T) {
	sizes(2, 4, func(n []int) {
		scripts(n[0], n[1], func(l []api.Change, keep []int) {
			back := edits.Invert(l)
			checkCheck(t, back, n[1], n[0], api.OK)
			around := slices.Repeat([]int{-1}, n[1])
			for i, line := range keep {
				if line != -1 {
					around[line] = i
				}
			}
			checkKeep(t, back, n[1], n[0], around, api.OK)
			if twice := edits.Invert(back); !slices.Equal(twice, l) {
				t.Errorf("%v twice the other way round: %v", l, twice)
			}
		})
	})
}

func TestApplyOfLinesThatAreTheSame(t *testing.T) {
	sizes(2, 4, func(n []int) {
		b := samples.Named("b", n[1])
		scripts(n[0], n[1], func(l []api.Change, keep []int) {
			a := samples.Named("a", n[0])
			for i, line := range keep {
				if line != -1 {
					a[i] = b[line]
				}
			}
			checkApply(t, l, a, b, b, api.OK)
			checkApply(t, edits.Invert(l), b, a, a, api.OK)
		})
	})
}

func TestComposeWithAScriptThatKeepsAll(t *testing.T) {
	sizes(2, 4, func(n []int) {
		scripts(n[0], n[1], func(l []api.Change, _ []int) {
			checkCompose(t, nil, l, n[0], n[0], n[1], l, api.OK)
			checkCompose(t, l, nil, n[0], n[1], n[1], l, api.OK)
		})
	})
}

// checkAssociative composes three scripts in both orders.
func checkAssociative(t *testing.T, x, y, z []api.Change, n []int) {
	t.Helper()
	xy, err := edits.Compose(x, y, n[0], n[1], n[2])
	yz, err2 := edits.Compose(y, z, n[1], n[2], n[3])
	if err != api.OK || err2 != api.OK {
		t.Errorf("%v, %v and %v of %v lines: %d, %d", x, y, z, n, err, err2)
	}
	want, err := edits.Compose(x, yz, n[0], n[1], n[3])
	checkCompose(t, xy, z, n[0], n[2], n[3], want, err)
}

func TestComposingIsAssociative(t *testing.T) {
	all := func(n []int) {
		scripts(n[0], n[1], func(x []api.Change, _ []int) {
			scripts(n[1], n[2], func(y []api.Change, _ []int) {
				scripts(n[2], n[3], func(z []api.Change, _ []int) { checkAssociative(t, x, y, z, n) })
			})
		})
	}
	sizes(4, 2, all)
	all([]int{3, 3, 3, 3})
	all([]int{1, 4, 2, 3})
	all([]int{3, 2, 4, 1})
}

// scriptOf is a right script from n lines on, out of any bytes: each is so many lines, which are taken out, put in or kept in turn.
func scriptOf(s string, n int) ([]int, int) {
	var keep []int
	m := 0
	for i := range len(s) {
		lines := int(s[i] % 4)
		for range lines {
			if i%3 == 1 {
				m++
				continue
			}
			if len(keep) == n {
				break
			}
			if i%3 == 0 {
				keep = append(keep, -1)
			} else {
				keep = append(keep, m)
				m++
			}
		}
	}
	for len(keep) < n {
		keep = append(keep, -1)
	}
	return keep, m
}

func FuzzAnyScripts(f *testing.F) {
	f.Add("", "", 0)
	f.Add("\x00\x00\x03", "\x01\x02\x03", 3)
	f.Add("\x01\x02\x01\x03\x00\x02", "\x02\x00\x03\x01\x01\x01", 9)
	f.Fuzz(func(t *testing.T, s, u string, size int) {
		n := int(uint(size) % 50)
		p, m := scriptOf(s, n)
		q, k := scriptOf(u, m)
		x, y := scriptByWords(p, m), scriptByWords(q, k)
		checkCheck(t, x, n, m, api.OK)
		checkMake(t, p, m, x, api.OK)
		checkKeep(t, x, n, m, p, api.OK)
		a, b := samples.Named("a", n), samples.Named("b", m)
		checkApply(t, x, a, b, appliedByWords(a, b, p), api.OK)
		checkCompose(t, x, y, n, m, k, scriptByWords(composedByWords(p, q), k), api.OK)
	})
}

func FuzzAnyChanges(f *testing.F) {
	f.Add(0, 1, 0, 1, 2, 0, 2, 1, 2, 3)
	f.Add(math.MaxInt, math.MaxInt, math.MaxInt, math.MaxInt, math.MinInt, 1, -1, 1, 0, 0)
	f.Fuzz(func(t *testing.T, a, an, b, bn, c, cn, d, dn, n, m int) {
		l := rows{{a, an, b, bn}, {c, cn, d, dn}}.Changes()
		right := edits.Check(l, n, m)
		if back := edits.Check(edits.Invert(l), m, n); back != right {
			t.Errorf("%v from %d to %d lines: %d, the other way round: %d", l, n, m, right, back)
		}
		checkCompose(t, nil, l, n, n, m, when(right, l), right)
		checkCompose(t, l, nil, n, m, m, when(right, l), right)
		if cost := edits.Cost(l); cost < 0 || cost > api.MaxNumber {
			t.Errorf("cost of %v: %d", l, cost)
		}
		if n < 1<<20 {
			keep, err := edits.Keep(l, n, m)
			if err != right {
				t.Errorf("%v from %d to %d lines: check %d, keep %d", l, n, m, right, err)
			}
			if err == api.OK {
				checkMake(t, keep, m, l, api.OK)
			}
		}
	})
}

// when is a list, beside no error.
func when(err api.Errno, l []api.Change) []api.Change {
	if err != api.OK {
		return nil
	}
	return l
}

package patchset_test

import (
	"math"
	"slices"
	"strings"
	"testing"

	"redline/api"
	"redline/hunks"
	"redline/patchset"
	"redline/samples"
)

// Promise 18.4.

// checkInvert holds Invert against what it must answer.
func checkInvert(t *testing.T, l, want []api.Patch) {
	t.Helper()
	if back := patchset.Invert(l); !samples.SamePatches(back, want) {
		t.Errorf("%s the other way round: %s, want %s", told(l), told(back), told(want))
	}
}

// invertByWords is patches with their names exchanged and their hunks inverted.
func invertByWords(l []api.Patch) []api.Patch {
	back := slices.Clone(l)
	for i := range back {
		back[i].Old, back[i].New = l[i].New, l[i].Old
		back[i].Hunks = slices.Clone(l[i].Hunks)
		for j := range back[i].Hunks {
			back[i].Hunks[j] = hunks.Invert(l[i].Hunks[j])
		}
	}
	return back
}

// checkBack says all of Invert that must hold of any patches; of these three times is once.
func checkBack(t *testing.T, l []api.Patch) {
	t.Helper()
	back := invertByWords(l)
	checkInvert(t, l, back)
	checkInvert(t, back, invertByWords(back))
	checkInvert(t, patchset.Invert(patchset.Invert(l)), back)
}

func TestInvertOfEdges(t *testing.T) {
	come := samples.Hunk([4]int{0, 0, 1, 1}, "+x\n")
	mixed := samples.Hunk([4]int{3, 4, 5, 3}, " 1\n", "-a\n", "-b\n", "+c\n", " 2\n")
	back := samples.Hunk([4]int{5, 3, 3, 4}, " 1\n", "-c\n", "+a\n", "+b\n", " 2\n")
	long := strings.Repeat("x", api.MaxName+1)
	for _, c := range []struct {
		name    string
		l, want []api.Patch
	}{
		{"none", nil, nil},
		{"an empty row", []api.Patch{}, []api.Patch{}},
		{"nothing", []api.Patch{{}}, []api.Patch{{}}},
		{"no hunks", []api.Patch{{Old: "a", New: "b"}}, []api.Patch{{Old: "b", New: "a"}}},
		{"an empty row of hunks", []api.Patch{{Old: "a", Hunks: []api.Hunk{}}}, []api.Patch{{New: "a"}}},
		{"one goes", []api.Patch{patchOf(gone())}, []api.Patch{{Old: "b", New: "a", Hunks: []api.Hunk{come}}}},
		{"no names", []api.Patch{nameless(come)}, []api.Patch{nameless(gone())}},
		{"an old name alone", []api.Patch{{Old: "a", Hunks: []api.Hunk{come}}}, []api.Patch{{New: "a", Hunks: []api.Hunk{gone()}}}},
		{"a new name alone", []api.Patch{{New: "a", Hunks: []api.Hunk{gone()}}}, []api.Patch{{Old: "a", Hunks: []api.Hunk{come}}}},
		{"the same name twice", []api.Patch{{Old: "a", New: "a", Hunks: []api.Hunk{mixed}}}, []api.Patch{{Old: "a", New: "a", Hunks: []api.Hunk{back}}}},
		{"names that are too long", []api.Patch{{Old: long, New: "/" + long}}, []api.Patch{{Old: "/" + long, New: long}}},
		{"several hunks", []api.Patch{patchOf(gone(), mixed, come)}, []api.Patch{{Old: "b", New: "a", Hunks: []api.Hunk{come, back, gone()}}}},
		{"several patches", []api.Patch{patchOf(mixed), {Old: "c"}, nameless(come, gone()), {New: "d e", Hunks: []api.Hunk{gone()}}}, []api.Patch{
			{Old: "b", New: "a", Hunks: []api.Hunk{back}}, {New: "c"}, nameless(gone(), come), {Old: "d e", Hunks: []api.Hunk{come}},
		}},
		{"signs of no kind", []api.Patch{nameless(samples.Hunk([4]int{-1, 2, 3, math.MaxInt}, "+a", "!b", "-c", "+d"))}, []api.Patch{nameless(samples.Hunk([4]int{3, math.MaxInt, -1, 2}, "-a", "!b", "-d", "+c"))}},
	} {
		t.Run(c.name, func(t *testing.T) {
			checkInvert(t, c.l, c.want)
			checkBack(t, c.l)
		})
	}
	for _, c := range wrongPatches() {
		checkBack(t, []api.Patch{c.patch})
		checkBack(t, []api.Patch{patchOf(gone()), c.patch, {}, c.patch})
	}
	checkBack(t, slices.Repeat([]api.Patch{patchOf(gone(), mixed)}, 3*api.MaxFiles))
	checkBack(t, []api.Patch{tooManyHunks()})
}

func TestInvertOfAllShortHunks(t *testing.T) {
	samples.Texts(" -+!", 5, func(signs string) {
		h := samples.SignedHunk(signs)
		checkBack(t, []api.Patch{patchOf(h), nameless(gone(), h)})
	})
}

// checkStrip holds Strip against what it must answer.
func checkStrip(t *testing.T, name string, n int, want string) {
	t.Helper()
	if s := patchset.Strip(name, n); s != want {
		t.Errorf("%s without %d: %s, want %s", told(name), n, told(s), told(want))
	}
}

// stripByWords is a name without what stands up to its n-th slash.
func stripByWords(name string, n int) string {
	parts := strings.Split(name, "/") // one more than there are slashes
	n = min(max(n, 0), len(parts)-1)
	return strings.Join(parts[n:], "/")
}

func TestStripOfEdges(t *testing.T) {
	for _, c := range []struct {
		name string
		n    int
		want string
	}{
		{"a/b/c", 1, "b/c"}, {"a/b/c", 5, "c"}, {"a/b/c", 0, "a/b/c"}, {"a/b/c", -1, "a/b/c"}, {"a/b/c", 2, "c"}, {"a/b/c", 3, "c"},
		{"a", 0, "a"}, {"a", 1, "a"}, {"a", 2, "a"}, {"a", -1, "a"},
		{"", 0, ""}, {"", 1, ""}, {"", 2, ""}, {"", -1, ""},
		{"/a", 0, "/a"}, {"/a", 1, "a"}, {"/a", 2, "a"}, {"/a/b", 1, "a/b"}, {"/a/b", 2, "b"}, {"/a/b", 3, "b"},
		{"a/", 0, "a/"}, {"a/", 1, ""}, {"a/", 2, ""}, {"a/b/", 1, "b/"}, {"a/b/", 2, ""}, {"a/b/", 3, ""},
		{"a//b", 0, "a//b"}, {"a//b", 1, "/b"}, {"a//b", 2, "b"}, {"a//b", 3, "b"}, {"//", 0, "//"}, {"//", 1, "/"}, {"//", 2, ""}, {"//", 3, ""}, {"/", 1, ""}, {"/", 2, ""},
		{"a\\b/c", 1, "c"}, {"a b/\x00\xff\n/c", 1, "\x00\xff\n/c"}, {"../a", 1, "a"}, {"./a", 1, "a"}, {"\xc3\xa4/b", 1, "b"},
	} {
		checkStrip(t, c.name, c.n, c.want)
		checkStrip(t, c.name, c.n, stripByWords(c.name, c.n))
	}
	for _, name := range []string{"", "/", "a", "a/b", "/a//b/", "a/b/c"} {
		for _, n := range []int{math.MinInt, math.MinInt32, -2, math.MaxInt32, 1 << 32, math.MaxInt} {
			checkStrip(t, name, n, stripByWords(name, n))
		}
	}
	long := strings.Repeat("a/", 1<<17)
	for _, n := range []int{-1, 0, 1, 2, 1 << 16, 1<<17 - 1, 1 << 17, 1<<17 + 1, math.MaxInt} {
		checkStrip(t, long, n, stripByWords(long, n))
		checkStrip(t, long+"b", n, stripByWords(long+"b", n))
	}
}

func TestStripOfAllShortNames(t *testing.T) {
	samples.Texts("/ab", 7, func(name string) {
		for n := -2; n < 9; n++ {
			checkStrip(t, name, n, stripByWords(name, n))
		}
	})
}

package patchset_test

import (
	"math"
	"slices"
	"strings"
	"testing"

	"redline/api"
	"redline/hunks"
	"redline/samples"
)

// Promise 18.3.

// Patches that unified.Print refuses.
func tooLongName() api.Patch {
	return api.Patch{Old: strings.Repeat("x", api.MaxName+1), New: "b", Hunks: []api.Hunk{gone()}}
}

func tooManyHunks() api.Patch {
	return patchOf(slices.Repeat([]api.Hunk{gone()}, api.MaxHunks+1)...)
}

// wrongPatch is a patch, and the error of unified.Print of it.
type wrongPatch struct {
	patch api.Patch
	code  api.Errno
}

// wrongPatches are patches for each error of unified.Print.
func wrongPatches() []wrongPatch {
	l := []wrongPatch{
		{tooLongName(), api.ErrName},
		{api.Patch{New: strings.Repeat(" ", api.MaxName+1)}, api.ErrName},
		{tooManyHunks(), api.ErrLong},
	}
	for _, c := range samples.WrongHunks() {
		l = append(l, wrongPatch{patchOf(c.Hunk), c.Err}, wrongPatch{nameless(gone(), c.Hunk, gone()), c.Err})
	}
	return l
}

// normalCase is a hunk, and the normal form of what it changes.
type normalCase struct {
	name string
	hunk api.Hunk
	want string
}

// normalCases are the edges of pieces and of places.
func normalCases() []normalCase {
	const top = api.MaxNumber
	return []normalCase{
		{"one goes", samples.Hunk([4]int{1, 1, 0, 0}, "-x\n"), "1d0\n< x\n"},
		{"some go", samples.Hunk([4]int{4, 3, 9, 0}, "-x\n", "-y\n", "-\n"), "4,6d9\n< x\n< y\n< \n"},
		{"one comes", samples.Hunk([4]int{0, 0, 1, 1}, "+x\n"), "0a1\n> x\n"},
		{"some come", samples.Hunk([4]int{7, 0, 3, 2}, "+x\n", "+y\n"), "7a3,4\n> x\n> y\n"},
		{"one for one", samples.Hunk([4]int{5, 1, 6, 1}, "-x\n", "+y\n"), "5c6\n< x\n---\n> y\n"},
		{"two for three", samples.Hunk([4]int{2, 2, 1, 3}, "-a\n", "-b\n", "+c\n", "+d\n", "+e\n"), "2,3c1,3\n< a\n< b\n---\n> c\n> d\n> e\n"},
		{"in turn", samples.Hunk([4]int{2, 2, 1, 3}, "+c\n", "-a\n", "+d\n", "-b\n", "+e\n"), "2,3c1,3\n< a\n< b\n---\n> c\n> d\n> e\n"},
		{"kept lines ahead", samples.Hunk([4]int{3, 3, 5, 2}, " 1\n", " 2\n", "-x\n"), "5d6\n< x\n"},
		{"kept lines behind", samples.Hunk([4]int{3, 2, 5, 3}, "+x\n", " 1\n", " 2\n"), "2a5\n> x\n"},
		{"kept lines around", samples.Hunk([4]int{3, 3, 5, 3}, " 1\n", "-x\n", "+y\n", " 2\n"), "4c6\n< x\n---\n> y\n"},
		{"kept lines between", samples.Hunk([4]int{1, 3, 1, 3}, "-x\n", " 1\n", " 2\n", "+y\n"), "1d0\n< x\n3a3\n> y\n"},
		{"several pieces", samples.Hunk([4]int{10, 7, 20, 7}, " 1\n", "-a\n", " 2\n", "+b\n", "+c\n", " 3\n", "-d\n", "-e\n", "+f\n", " 4\n"), "11d20\n< a\n12a22,23\n> b\n> c\n14,15c25\n< d\n< e\n---\n> f\n"},
		{"all kept ones are the old lines", samples.Hunk([4]int{3, 1, 3, 3}, "+x\n", " 1\n", "+y\n"), "2a3\n> x\n3a5\n> y\n"},
		{"all kept ones are the new lines", samples.Hunk([4]int{3, 3, 3, 1}, "-x\n", " 1\n", "-y\n"), "3d2\n< x\n5d3\n< y\n"},
		{"no old lines, at 0", samples.Hunk([4]int{0, 0, 7, 1}, "+x\n"), "0a7\n> x\n"},
		{"no old lines, further on", samples.Hunk([4]int{99, 0, 1, 1}, "+x\n"), "99a1\n> x\n"},
		{"no new lines, at 0", samples.Hunk([4]int{7, 1, 0, 0}, "-x\n"), "7d0\n< x\n"},
		{"no new lines, further on", samples.Hunk([4]int{1, 1, 99, 0}, "-x\n"), "1d99\n< x\n"},
		{"an old line lacks its feed", samples.Hunk([4]int{1, 2, 1, 1}, " 1\n", "-x"), "2d1\n< x\n" + noFeed},
		{"a new line lacks its feed", samples.Hunk([4]int{1, 1, 1, 2}, " 1\n", "+x"), "1a2\n> x\n" + noFeed},
		{"both lack it", samples.Hunk([4]int{1, 1, 1, 1}, "-x", "+y"), "1c1\n< x\n" + noFeed + "---\n> y\n" + noFeed},
		{"the old one lacks it, new ones behind it", samples.Hunk([4]int{1, 1, 1, 2}, "-x", "+x\n", "+y\n"), "1c1,2\n< x\n" + noFeed + "---\n> x\n> y\n"},
		{"the new one ahead of the old one lacks it", samples.Hunk([4]int{1, 1, 1, 1}, "+y", "-x\n"), "1c1\n< x\n---\n> y\n" + noFeed},
		{"a kept line lacks its feed", samples.Hunk([4]int{1, 2, 1, 1}, "-x\n", " y"), "1d0\n< x\n"},
		{"the same line goes and comes", samples.Hunk([4]int{1, 1, 1, 1}, "-x\n", "+x\n"), "1c1\n< x\n---\n> x\n"},
		{"the greatest numbers", samples.Hunk([4]int{top, 1, top, 0}, "-x\n"), "2147483647d2147483647\n< x\n"},
		{"the greatest numbers, of more lines than fit behind", samples.Hunk([4]int{top, 2, top, 3}, " 1\n", "-x\n", "+y\n", "+z\n"), "2147483648c2147483648,2147483649\n< x\n---\n> y\n> z\n"},
		{"lines that look like the form", samples.Hunk([4]int{1, 2, 1, 2}, "----\n", "-1d0\n", "+> x\n", "+"+noFeed), "1,2c1,2\n< ---\n< 1d0\n---\n> > x\n> " + noFeed},
		{"lines of any bytes", samples.Hunk([4]int{1, 1, 1, 1}, "-\x00\xff\r\n", "+ \t\n"), "1c1\n< \x00\xff\r\n---\n>  \t\n"},
	}
}

func TestPrintOfTheNormalForm(t *testing.T) {
	var l []api.Hunk
	var text strings.Builder
	for _, c := range normalCases() {
		t.Run(c.name, func(t *testing.T) {
			checkPrint(t, []api.Patch{nameless(c.hunk)}, api.FNormal, c.want, api.OK)
			checkPrint(t, []api.Patch{patchOf(c.hunk, gone(), c.hunk)}, api.FNormal, c.want+normalGoes+c.want, api.OK)
			checkPrintByWords(t, []api.Patch{patchOf(c.hunk)})
		})
		l = append(l, c.hunk)
		text.WriteString(c.want)
	}
	checkPrint(t, []api.Patch{nameless(l...)}, api.FNormal, text.String(), api.OK)
	checkPrintByWords(t, []api.Patch{patchOf(l...)})
}

// Hunks that touch, that lie in one another, and in no order: each piece of each hunk is a change, at its own place.
func TestPrintOfHunksInNoOrder(t *testing.T) {
	first, second := samples.Hunk([4]int{1, 1, 0, 0}, "-x\n"), samples.Hunk([4]int{2, 1, 0, 0}, "-y\n")
	for _, c := range []struct {
		l    []api.Hunk
		want string
	}{
		{[]api.Hunk{first, second}, "1d0\n< x\n2d0\n< y\n"},
		{[]api.Hunk{second, first}, "2d0\n< y\n1d0\n< x\n"},
		{[]api.Hunk{first, first}, "1d0\n< x\n1d0\n< x\n"},
		{[]api.Hunk{samples.Hunk([4]int{1, 1, 1, 2}, " a\n", "+x\n"), samples.Hunk([4]int{2, 1, 3, 1}, "-y\n", "+z\n")}, "1a2\n> x\n2c3\n< y\n---\n> z\n"},
		{[]api.Hunk{samples.Hunk([4]int{5, 0, 900, 1}, "+x\n")}, "5a900\n> x\n"},
		{[]api.Hunk{samples.Hunk([4]int{900, 2, 5, 2}, " a\n", "-x\n", "+y\n")}, "901c6\n< x\n---\n> y\n"},
	} {
		checkPrint(t, []api.Patch{nameless(c.l...)}, api.FNormal, c.want, api.OK)
		checkPrintByWords(t, []api.Patch{nameless(c.l...)})
	}
}

func TestPrintOfAllShortHunks(t *testing.T) {
	right, wrong := 0, 0
	samples.Texts(" -+", 6, func(signs string) {
		samples.Ends(samples.SignedHunk(signs), func(h api.Hunk) {
			checkPrintByWords(t, []api.Patch{patchOf(h)})
			if hunks.Check(h) != api.OK {
				wrong++
				return
			}
			right++
			h.A, h.B = h.A+8, h.B+98
			checkPrintByWords(t, []api.Patch{patchOf(h, gone(), h)})
			checkPrintByWords(t, []api.Patch{patchOf(h), nameless(gone(), h)})
		})
	})
	if right < 2000 || wrong < 500 {
		t.Errorf("%d are right, %d are wrong", right, wrong)
	}
}

func TestPrintOfSeveralPatches(t *testing.T) {
	for _, c := range rightTexts() {
		checkPrintByWords(t, c.want)
		checkPrintByWords(t, slices.Concat(c.want, c.want, []api.Patch{{Old: "x"}}, c.want))
	}
	second := api.Patch{Old: "c d", Hunks: []api.Hunk{gone(), gone()}}
	l := []api.Patch{patchOf(gone()), second}
	checkPrint(t, l, api.FUnified, "--- a\n+++ b\n@@ -1 +0,0 @@\n-x\n--- \"c d\"\n+++ /dev/null\n@@ -1 +0,0 @@\n-x\n@@ -1 +0,0 @@\n-x\n", api.OK)
	checkPrint(t, l, api.FContext, contextNames+contextGoes+"*** \"c d\"\n--- /dev/null\n"+contextGoes+contextGoes, api.OK)
	checkPrint(t, l, api.FNormal, "", api.ErrLong)
	checkPrint(t, l[1:], api.FNormal, "1d0\n< x\n1d0\n< x\n", api.OK)
}

// threeForms are all that Print knows.
func threeForms() []int { return []int{api.FNormal, api.FContext, api.FUnified} }

func TestPrintOfNothing(t *testing.T) {
	for _, form := range threeForms() {
		for _, l := range [][]api.Patch{nil, {}, {{}}, {{Old: "a", New: "b"}}, {{Hunks: []api.Hunk{}}}, {{Old: "a b", New: "\x00"}}} {
			checkPrint(t, l, form, "", api.OK)
		}
		checkPrint(t, []api.Patch{tooLongName()}, form, "", api.ErrName)
		checkPrint(t, []api.Patch{{Old: strings.Repeat("x", api.MaxName+1)}}, form, "", api.ErrName)
	}
	checkPrint(t, []api.Patch{{}, patchOf(gone()), {}}, api.FUnified, unifiedNames+unifiedGoes, api.OK)
	checkPrint(t, []api.Patch{{}, patchOf(gone()), {}}, api.FContext, contextNames+contextGoes, api.OK)
	checkPrint(t, make([]api.Patch, api.MaxFiles), api.FUnified, "", api.OK)
	checkPrint(t, make([]api.Patch, 2), api.FNormal, "", api.ErrLong)
}

func TestPrintInFormsThatAreNone(t *testing.T) {
	many := slices.Repeat([]api.Patch{patchOf(gone())}, api.MaxFiles+1)
	for _, form := range []int{0, -1, -2, -3, 4, 5, 6, 100, 1 << 32, 1<<32 + 1, math.MaxInt, math.MinInt, api.FEd, api.FRcs} {
		for _, l := range [][]api.Patch{nil, {{}}, {patchOf(gone())}, many[:2], many, {tooLongName()}, {tooManyHunks()}, {patchOf(api.Hunk{})}, append(many, tooLongName())} {
			checkPrint(t, l, form, "", api.ErrKind)
		}
	}
}

func TestPrintOfAsManyPatchesAsMayBe(t *testing.T) {
	l := slices.Repeat([]api.Patch{patchOf(gone())}, api.MaxFiles+1)
	checkPrint(t, l[1:], api.FUnified, strings.Repeat(unifiedNames+unifiedGoes, api.MaxFiles), api.OK)
	checkPrint(t, l[1:], api.FContext, strings.Repeat(contextNames+contextGoes, api.MaxFiles), api.OK)
	checkPrint(t, l[1:2], api.FNormal, normalGoes, api.OK)
	for _, form := range threeForms() {
		checkPrint(t, l, form, "", api.ErrLong)
		checkPrint(t, slices.Repeat(l, 3), form, "", api.ErrLong)
		checkPrint(t, make([]api.Patch, api.MaxFiles+1), form, "", api.ErrLong)
		checkPrint(t, slices.Repeat([]api.Patch{tooLongName()}, api.MaxFiles+1), form, "", api.ErrLong)
	}
	checkPrint(t, l[:2], api.FNormal, "", api.ErrLong)
	checkPrint(t, l[1:], api.FNormal, "", api.ErrLong)
	checkPrint(t, []api.Patch{tooLongName(), {}}, api.FNormal, "", api.ErrLong)
}

func TestPrintOfWrongPatches(t *testing.T) {
	right := patchOf(gone())
	for _, c := range wrongPatches() {
		for _, form := range threeForms() {
			checkPrint(t, []api.Patch{c.patch}, form, "", c.code)
		}
		for _, form := range []int{api.FContext, api.FUnified} {
			checkPrint(t, []api.Patch{c.patch, right}, form, "", c.code)
			checkPrint(t, []api.Patch{right, c.patch}, form, "", c.code)
			checkPrint(t, []api.Patch{right, {}, c.patch, right}, form, "", c.code)
			checkPrint(t, append(slices.Repeat([]api.Patch{right}, api.MaxFiles-1), c.patch), form, "", c.code)
			checkPrint(t, append(slices.Repeat([]api.Patch{right}, api.MaxFiles), c.patch), form, "", api.ErrLong)
			for _, other := range []wrongPatch{{tooLongName(), api.ErrName}, {patchOf(api.Hunk{A: -1}), api.ErrRange}, {nameless(api.Hunk{}), api.ErrScript}} {
				checkPrint(t, []api.Patch{c.patch, other.patch}, form, "", c.code)
				checkPrint(t, []api.Patch{other.patch, right, c.patch}, form, "", other.code)
			}
		}
	}
}

// Names, hunks and patches alone are limited: there may be more lines, more changes and longer lines than may be read.
func TestPrintHasNoLimitOfLines(t *testing.T) {
	long := strings.Repeat("x", 2*api.MaxText)
	checkPrintByWords(t, []api.Patch{patchOf(samples.Hunk([4]int{1, 1, 1, 1}, "-"+long, "+"+long+"\n"))})
	const n = 5 * api.MaxLines
	for _, signs := range []string{"-", "+", "-+", " -", "+ ", "+ - "} {
		checkPrintByWords(t, []api.Patch{patchOf(samples.SignedHunk(strings.Repeat(signs, n)))})
	}
	many := patchOf(slices.Repeat([]api.Hunk{samples.SignedHunk("- + -+")}, api.MaxHunks)...)
	checkPrintByWords(t, []api.Patch{many})
}

package hunks_test

import (
	"slices"
	"strings"
	"testing"

	"redline/api"
	"redline/canon"
	"redline/edits"
	"redline/engine"
	"redline/hunks"
	"redline/lines"
	"redline/samples"
)

var (
	none = api.Ignore{}
	all  = api.Ignore{Space: true, White: true, Blank: true, Case: true, Tabs: true, Trail: true}
)

// Promise 11.6.

// standsThere tells whether a hunk's old and new lines are what stands at its places in both texts; kept lines of the new one need only count as the same.
func standsThere(h api.Hunk, a, b []string, o api.Ignore) bool {
	i, endA := stands(h.A, h.AN)
	j, endB := stands(h.B, h.BN)
	if !slices.Equal(hunks.Old(h), a[i:endA]) {
		return false
	}
	made := hunks.New(h)
	if len(made) != endB-j {
		return false
	}
	at := 0
	for _, m := range h.Lines {
		if m.Sign == api.Removed {
			continue
		}
		there := b[j+at]
		if made[at] != m.Text || m.Sign == api.Added && m.Text != there || !canon.Equal(m.Text, there, o) {
			return false
		}
		at++
	}
	return true
}

// backOf is each hunk of a row, going back.
func backOf(l []api.Hunk) []api.Hunk {
	var back []api.Hunk
	for _, h := range l {
		back = append(back, hunks.Invert(h))
	}
	return back
}

// checkFollows says what follows of the hunks of the script that an engine finds.
func checkFollows(t *testing.T, number int, a, b []string, o api.Ignore) {
	t.Helper()
	script, err := engine.Diff(number, a, b, o)
	if err != api.OK {
		t.Fatalf("engine %d: %d", number, err)
	}
	fewest := len(script)
	for _, context := range contexts() {
		made, err := hunks.Make(script, a, b, context)
		wrong := func(what string) {
			t.Helper()
			t.Errorf("engine %d, %+v, context %d, of %s and %s: %s, %d: %s", number, o, context, told(a), told(b), told(made), err, what)
		}
		if err != api.OK || hunks.Order(made) != api.OK {
			wrong("not in order")
			continue
		}
		if len(made) > fewest || context == 0 && len(made) != fewest {
			wrong("more hunks with more context, or not a hunk a change")
		}
		fewest = len(made)
		for _, h := range made {
			if !standsThere(h, a, b, o) {
				wrong("not what stands there")
			}
			if !samples.SameHunk(hunks.Invert(hunks.Invert(h)), h) {
				wrong("going back twice is not the hunk")
			}
		}
		checkChanges(t, made, script, api.OK)
		checkChanges(t, backOf(made), edits.Invert(script), api.OK)
	}
}

// checkAllFollow says it of all engines.
func checkAllFollow(t *testing.T, a, b []string, o api.Ignore) {
	t.Helper()
	for _, number := range []int{api.Minimal, api.Patience, api.Histogram, api.Speedy} {
		checkFollows(t, number, a, b, o)
	}
}

func TestHunksOfAllShortTexts(t *testing.T) {
	samples.Both(2, 4, func(x, y []int) { checkAllFollow(t, samples.Text(x), samples.Text(y), none) })
}

// Lines some of which count as the same, the last one with and without its line feed.
func TestHunksUnderWhatIsIgnored(t *testing.T) {
	var texts [][]string
	samples.Lists([]string{"a\n", "A \n", "\n"}, 2, func(l []string) {
		texts = append(texts, l, append(slices.Clone(l), "a"), append(slices.Clone(l), "\ta "))
	})
	for _, o := range []api.Ignore{none, all, {Case: true}, {Trail: true, Blank: true}} {
		for _, a := range texts {
			for _, b := range texts {
				checkAllFollow(t, a, b, o)
			}
		}
	}
}

func TestHunksOfLongerTexts(t *testing.T) {
	samples.Mixed(60, 60, func(x, y []int) { checkAllFollow(t, samples.Text(x), samples.Text(y), none) })
	samples.Mixed(6, 900, func(x, y []int) { checkAllFollow(t, samples.Text(x), samples.Text(y), none) })
	for _, c := range samples.Plain() {
		checkAllFollow(t, samples.Text(c.X), samples.Text(c.Y), none)
	}
	var a, b []string
	for _, p := range samples.Alikes() {
		if strings.HasSuffix(p.A, "\n") {
			a, b = append(a, p.A, "only a\n"), append(b, p.B)
		}
	}
	checkAllFollow(t, a, b, all)
	checkAllFollow(t, a, b, none)
}

// With each line more around them hunks become fewer, or stay as many.
func TestMoreContextNeverMakesMoreHunks(t *testing.T) {
	signs := "-"
	for run := 1; run <= 205; run += 6 {
		signs += kept(run) + "+"
	}
	a, b := samples.Pair(signs)
	script := samples.Script(signs)
	fewest := len(script)
	for context := 0; context <= api.MaxContext; context++ {
		made, err := hunks.Make(script, a, b, context)
		if err != api.OK || len(made) > fewest || len(made) != len(groupByWords(signs, context)) {
			t.Errorf("context %d: %d hunks, %d, after %d", context, len(made), err, fewest)
		}
		fewest = len(made)
	}
	if fewest != 2 {
		t.Errorf("at last there are %d hunks, want 2: of the gaps only that of 205 lines is left", fewest)
	}
}

// Rule R4.

// handedIn is texts, a script between them and the hunks of it, each with something in the spare room behind its end.
type handedIn struct {
	a, b   []string
	script []api.Change
	hunks  []api.Hunk
}

const (
	behindText = "behind"
	behindSign = '!'
)

// aHandedIn is one for signs.
func aHandedIn(t *testing.T, signs string) handedIn {
	t.Helper()
	a, b := samples.Pair(signs)
	script := samples.Script(signs)
	made, err := hunks.Make(script, a, b, 1)
	if err != api.OK {
		t.Fatalf("%s: %d", signs, err)
	}
	for i := range made {
		made[i].Lines = samples.Spare(made[i].Lines, api.Mark{Sign: behindSign})
	}
	return handedIn{
		a: samples.Spare(a, behindText), b: samples.Spare(b, behindText),
		script: samples.Spare(script, api.Change{A: 9}), hunks: append(made, api.Hunk{A: 9})[:len(made)],
	}
}

// leftAlone tells whether what was handed in is what aHandedIn has made.
func leftAlone(t *testing.T, x handedIn, signs string) bool {
	t.Helper()
	want := aHandedIn(t, signs)
	for i, h := range x.hunks {
		if !samples.Left(h.Lines, want.hunks[i].Lines, api.Mark{Sign: behindSign}) {
			return false
		}
	}
	return samples.SameHunks(x.hunks, want.hunks) && samples.SameHunk(x.hunks[:len(x.hunks)+1][len(x.hunks)], api.Hunk{A: 9}) &&
		samples.Left(x.a, want.a, behindText) && samples.Left(x.b, want.b, behindText) && samples.Left(x.script, want.script, api.Change{A: 9})
}

func TestWhatIsHandedInIsLeftAlone(t *testing.T) {
	for _, signs := range []string{"", "===", "-", "+", "=-+=", "-=+==-=+", "=-+=====-+==", "==--++===+====-"} {
		x := aHandedIn(t, signs)
		for _, context := range []int{0, 1, 2, 100, 101, -1} {
			hunks.Group(x.script, len(x.a), len(x.b), context)
			hunks.Make(x.script, x.a, x.b, context)
		}
		hunks.Make(x.script, x.a, x.b[:0], 1)
		hunks.Order(x.hunks)
		hunks.Changes(x.hunks)
		hunks.Changes(samples.Turned(x.hunks))
		for _, h := range x.hunks {
			hunks.Check(h)
			hunks.Old(h)
			hunks.New(h)
			hunks.Invert(h)
			hunks.Invert(hunks.Invert(h))
		}
		if !leftAlone(t, x, signs) {
			t.Errorf("%s: what was handed in has become %s", signs, told(x))
		}
	}
}

// linesOf is the lists of lines of some rows of hunks.
func linesOf(rows ...[]api.Hunk) [][]api.Mark {
	var l [][]api.Mark
	for _, h := range slices.Concat(rows...) {
		l = append(l, h.Lines)
	}
	return l
}

func TestAnswersAreNewMemory(t *testing.T) {
	change := func(i int) api.Change { return api.Change{A: i} }
	mark := func(i int) api.Mark { return api.Mark{Sign: byte(i), Text: "filled"} }
	text := func(i int) string { return strings.Repeat("filled", i) }
	for _, signs := range []string{"-", "=-+=", "-=+==-=+", "=-+=====-+==", "==--++===+====-"} {
		for context := range 3 {
			x := aHandedIn(t, signs)
			groups, _ := hunks.Group(x.script, len(x.a), len(x.b), context)
			again, _ := hunks.Group(x.script, len(x.a), len(x.b), context)
			script, _ := hunks.Changes(x.hunks)
			another, _ := hunks.Changes(x.hunks)
			if !samples.Apart(change, slices.Concat(groups, again, [][]api.Change{x.script, script, another})...) {
				t.Errorf("%s, context %d: changes share memory", signs, context)
			}
		}
		x := aHandedIn(t, signs)
		made, _ := hunks.Make(x.script, x.a, x.b, 1)
		again, _ := hunks.Make(x.script, x.a, x.b, 1)
		for _, h := range x.hunks {
			if !samples.Apart(text, hunks.Old(h), hunks.Old(h), hunks.New(h), hunks.New(h), x.a, x.b) {
				t.Errorf("%s: old and new lines share memory", signs)
			}
		}
		if !samples.Apart(mark, linesOf(made, again, x.hunks, backOf(x.hunks), backOf(x.hunks))...) {
			t.Errorf("%s: lines of hunks share memory", signs)
		}
		made[0] = api.Hunk{A: -7}
		if samples.SameHunk(again[0], made[0]) {
			t.Errorf("%s: rows of hunks share memory", signs)
		}
	}
}

func TestGroupsOfOneAnswerAreApart(t *testing.T) {
	signs := "-=+===-=+===-=+"
	a, b := samples.Pair(signs)
	groups, _ := hunks.Group(samples.Script(signs), len(a), len(b), 1)
	again, _ := hunks.Group(samples.Script(signs), len(a), len(b), 1)
	groups[0] = nil
	if len(groups) != 3 || len(again[0]) != 2 {
		t.Errorf("%v and %v", groups, again)
	}
}

// Searches for what breaks a promise.

func FuzzMake(f *testing.F) {
	f.Add("", 0)
	f.Add("\x03\x00\x04", 1)
	f.Add("\x00\x03\x04\x00\x00\x03\x00\x00\x00\x04\x03", 1)
	f.Add("\x03"+strings.Repeat("\x00", 201)+"\x04", 100)
	f.Fuzz(func(t *testing.T, s string, context int) {
		signs := samples.Signs(s)
		a, b := samples.Pair(signs)
		if context < 0 || context > api.MaxContext {
			checkGroup(t, samples.Script(signs), len(a), len(b), context, nil, api.ErrRange)
			checkMake(t, samples.Script(signs), a, b, context, nil, api.ErrRange)
			context = int(uint(context) % (api.MaxContext + 1))
		}
		checkByWords(t, signs, context)
		made, _ := hunks.Make(samples.Script(signs), a, b, context)
		checkChanges(t, made, samples.Script(signs), api.OK)
	})
}

// marksFrom is lines with signs out of a text: of each of its lines the first byte is the sign.
func marksFrom(s string) []api.Mark {
	var l []api.Mark
	for _, line := range lines.Split(s) {
		l = append(l, api.Mark{Sign: line[0], Text: line[1:]})
	}
	return l
}

func FuzzAnyHunk(f *testing.F) {
	f.Add(1, 2, 1, 2, " a\n-b\n+c\n")
	f.Add(0, 0, 0, 0, "")
	f.Add(1, 1, 1, 1, "-a\n+b")
	f.Add(-1, 1, 1, 1, "+b\nxc\n-a\n-d\n")
	f.Add(1, 2, 1, 1, " a\n-b")
	f.Fuzz(func(t *testing.T, a, an, b, bn int, s string) {
		h := api.Hunk{A: a, AN: an, B: b, BN: bn, Lines: marksFrom(s)}
		for _, x := range []api.Hunk{h, counted(a, b, h.Lines)} {
			checkCheck(t, x, wrongByWords(x))
			checkOrder(t, []api.Hunk{x}, orderByWords([]api.Hunk{x}))
			checkSides(t, x, sideByWords(x, " -"), sideByWords(x, " +"))
			checkBack(t, x)
		}
	})
}

// rowFrom is hunks out of a text, in order but for what is wrong in themselves: a line with the sign @ begins another one, as many lines off as it has bytes.
func rowFrom(s string) []api.Hunk {
	var gaps []int
	var marks [][]api.Mark
	for _, m := range marksFrom("@\n" + s) {
		if m.Sign == '@' {
			gaps, marks = append(gaps, max(len(m.Text)-1, 0)), append(marks, nil)
			continue
		}
		last := &marks[len(marks)-1]
		*last = append(*last, m)
	}
	return inOrder(gaps, marks)
}

func FuzzAnyRow(f *testing.F) {
	f.Add("-a\n+b\n@\n+c\n d\n@12\n d\n-e\n", 0, 0)
	f.Add("-a\n+b\n@\n+c\n d\n@12\n d\n-e\n", 1, 1)
	f.Add(" a\n-b\n@12\n@\n-d\n", 2, -1)
	f.Add("", 0, 1)
	f.Fuzz(func(t *testing.T, s string, field, by int) {
		l := rowFrom(s)
		if h := &l[uint(field)/2%uint(len(l))]; field%2 == 0 {
			h.A += by % 100
		} else {
			h.B += by % 100
		}
		err := orderByWords(l)
		checkOrder(t, l, err)
		if err == api.OK {
			checkScript(t, l)
		}
	})
}

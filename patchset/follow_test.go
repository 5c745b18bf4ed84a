package patchset_test

import (
	"math"
	"slices"
	"strings"
	"testing"

	"redline/api"
	"redline/engine"
	"redline/hunks"
	"redline/lines"
	"redline/normal"
	"redline/patchset"
	"redline/samples"
)

// Promise 18.5.

// withHunks is the patches that have hunks.
func withHunks(l []api.Patch) []api.Patch {
	return slices.DeleteFunc(slices.Clone(l), func(p api.Patch) bool { return len(p.Hunks) == 0 })
}

// between is a text with remarks put in between every two lines.
func between(text, remarks string) string {
	return strings.Join(slices.Collect(strings.Lines(text)), remarks)
}

// checkRead says that a text is read as it should be, also with remarks between its lines.
func checkRead(t *testing.T, text string, want []api.Patch, form int) {
	t.Helper()
	if len(want) == 0 {
		form = 0
	}
	checkParse(t, text, want, form)
	for _, put := range []string{"\n", "Index: a\n", strings.Join(remarks(), "")} {
		if more := put + between(text, put) + put; len(more) <= api.MaxText {
			checkParse(t, more, want, form)
		}
	}
}

// checkThereAndBack says what follows of patches of right hunks: they are read again, in the forms with names, and two times inverted they are the same.
func checkThereAndBack(t *testing.T, l []api.Patch) {
	t.Helper()
	for _, form := range []int{api.FContext, api.FUnified} {
		text, code := patchset.Print(l, form)
		if code != api.OK {
			t.Fatalf("%s in the form %d: %d", told(l), form, code)
		}
		checkRead(t, text, withHunks(l), form)
	}
	checkInvert(t, patchset.Invert(l), l)
}

// checkScript says what follows of a script between right lines, with more and more lines that are kept around its changes; where it keeps a line without its feed that is another line in b, there may be no right hunk.
func checkScript(t *testing.T, l []api.Change, a, b []string) {
	t.Helper()
	if lines.Check(a) != api.OK || lines.Check(b) != api.OK {
		t.Fatalf("%s or %s are no right lines", told(a), told(b))
	}
	short, _ := hunks.Make(l, a, b, 0)
	plain, _ := normal.Print(l, a, b)
	var all []api.Patch
	for _, context := range []int{0, 1, 2, 3, 100} {
		made, code := hunks.Make(l, a, b, context)
		if code != api.OK {
			t.Fatalf("no hunks of %s: %d", told(l), code)
		}
		p := patchOf(made...)
		if slices.ContainsFunc(made, func(h api.Hunk) bool { return hunks.Check(h) != api.OK }) {
			checkPrintByWords(t, []api.Patch{p})
			continue
		}
		// However many lines are kept around, the changes are those of the script.
		checkPrint(t, []api.Patch{p}, api.FNormal, plain, api.OK)
		all = append(all, p)
	}
	checkThereAndBack(t, all)
	if len(all) > 0 {
		checkRead(t, plain, withHunks([]api.Patch{nameless(short...)}), api.FNormal)
	}
}

func TestWhatIsPrintedIsReadAgainOfAllShortTexts(t *testing.T) {
	samples.Texts("=-+", 6, func(signs string) {
		_, b := samples.Pair(signs)
		for _, b := range [][]string{b, samples.Unfed(b)} {
			a := samples.Before(signs, b)
			if lines.Check(a) == api.OK {
				checkScript(t, samples.Script(signs), a, b)
			}
			checkScript(t, samples.Script(strings.ReplaceAll(signs, "=", "-+")), samples.Unfed(samples.Named("old", len(signs)-strings.Count(signs, "+"))), b)
		}
	})
}

func TestWhatIsPrintedIsReadAgainOfAllEngines(t *testing.T) {
	samples.TextPairs(func(a, b []string, o api.Ignore) {
		samples.Engines(a, b, o, func(l []api.Change) { checkScript(t, l, a, b) })
	})
}

// Lines that look like remarks, like parts of the forms, empty ones and such of all bytes.
func TestWhatIsPrintedIsReadAgainOfAnyLines(t *testing.T) {
	odd := append(remarks(), " \n", "-x\n", "--- a\n", "+++ b\n", "*** a\n", "@@ -1 +1 @@\n", contextStars, "1d0\n", "< x\n", "---\n", noFeed, "\r\n", "\x00\n")
	for _, x := range odd {
		for _, y := range odd {
			b := []string{x, y}
			for _, signs := range []string{"++", "-+=", "+=", "=-+"} {
				checkScript(t, samples.Script(signs), samples.Before(signs, b), b)
			}
		}
		b := []string{x, strings.TrimSuffix(x, "\n") + "."}
		checkScript(t, samples.Script("+-+"), []string{"x\n"}, b)
	}
}

func TestSeveralPatchesAreReadAgain(t *testing.T) {
	var l []api.Patch
	names := samples.FileNames()
	samples.Mixed(api.MaxFiles, 30, func(x, y []int) {
		i := len(l)
		a, b := samples.Text(x), samples.Text(y)
		script, _ := engine.Diff(api.Minimal, a, b, api.Ignore{})
		made, code := hunks.Make(script, a, b, i%5)
		if code != api.OK {
			t.Fatalf("no hunks: %d", code)
		}
		l = append(l, api.Patch{Old: names[i%len(names)].Name, New: names[(i*7+3)%len(names)].Name, Hunks: made})
	})
	if len(l) < 20 {
		t.Fatalf("only %d patches", len(l))
	}
	l = l[:min(len(l), api.MaxFiles)]
	for i := range l {
		checkThereAndBack(t, l[:i+1])
		checkThereAndBack(t, l[i:i+1])
		checkThereAndBack(t, append([]api.Patch{{Old: "x"}}, l[i]))
	}
	checkThereAndBack(t, nil)
	checkThereAndBack(t, []api.Patch{{}, {New: "x"}})
}

func TestWhatIsPrintedIsReadAgainUpToTheLimits(t *testing.T) {
	signs := strings.Repeat("-=", api.MaxHunks)
	a, b := samples.Pair(signs)
	checkScript(t, samples.Script(signs), a, b)
	made, code := hunks.Make(samples.Script("-="), []string{"x\n", "y\n"}, []string{"y\n"}, 1)
	if code != api.OK {
		t.Fatal(code)
	}
	checkThereAndBack(t, slices.Repeat([]api.Patch{patchOf(made...)}, api.MaxFiles))
}

// Rule R1: nothing of what may be handed in panics.

func TestNothingPanics(t *testing.T) {
	numbers := []int{math.MinInt, math.MinInt32, -1, 0, 1, 2, api.MaxNumber, api.MaxNumber + 1, math.MaxInt}
	lists := [][]api.Mark{nil, samples.Marks("-x\n"), samples.Marks("+x"), samples.Marks("-x", "+"), samples.Marks("!x\n"), samples.Marks("\x00")}
	samples.Lists(numbers, 4, func(n []int) {
		if len(n) < 4 {
			return
		}
		for _, marks := range lists {
			h := api.Hunk{A: n[0], AN: n[1], B: n[2], BN: n[3], Lines: marks}
			for _, form := range threeForms() {
				l := []api.Patch{nameless(h)}
				if s, code := patchset.Print(l, form); (code == api.OK) != (hunks.Check(h) == api.OK) || code != api.OK && s != "" {
					t.Errorf("%s: %s, %d", told(h), told(s), code)
				}
			}
			checkInvert(t, []api.Patch{nameless(h)}, []api.Patch{nameless(hunks.Invert(h))})
		}
	})
}

// Rule R4.

// spare is patches with something behind the ends of all their lists.
func spare(l []api.Patch) []api.Patch {
	l = append(slices.Clone(l), api.Patch{Old: "behind"})[:len(l)]
	for i, p := range l {
		made := append(slices.Clone(p.Hunks), api.Hunk{A: 77})[:len(p.Hunks)]
		for j, h := range made {
			made[j].Lines = samples.Spare(h.Lines, api.Mark{Sign: 9, Text: "behind"})
		}
		l[i].Hunks = made
	}
	return l
}

// checkLeft says that patches that spare has made are what they were, and so is what stands behind their ends.
func checkLeft(t *testing.T, l, want []api.Patch) {
	t.Helper()
	if !samples.SamePatches(l, want) || l[:len(l)+1][len(l)].Old != "behind" {
		t.Fatalf("%s has become %s", told(want), told(l))
	}
	for i, p := range l {
		if p.Hunks[:len(p.Hunks)+1][len(p.Hunks)].A != 77 {
			t.Errorf("%s: there is something new behind its hunks", told(p))
		}
		for j, h := range p.Hunks {
			if !samples.Left(h.Lines, want[i].Hunks[j].Lines, api.Mark{Sign: 9, Text: "behind"}) {
				t.Errorf("%s has become %s", told(want[i].Hunks[j]), told(h))
			}
		}
	}
}

// somePatches are right ones and wrong ones.
func somePatches() [][]api.Patch {
	l := [][]api.Patch{nil, {{}}, {{Old: "a", New: "b"}, patchOf(gone())}}
	for _, c := range rightTexts() {
		l = append(l, c.want, slices.Concat(c.want, c.want))
	}
	for _, c := range wrongPatches() {
		l = append(l, []api.Patch{patchOf(gone()), c.patch})
	}
	for _, c := range normalCases() {
		l = append(l, []api.Patch{patchOf(c.hunk, c.hunk)})
	}
	return l
}

func TestWhatIsHandedInIsLeftAlone(t *testing.T) {
	for _, want := range somePatches() {
		l := spare(want)
		patchset.Invert(l)
		for form := -1; form < 6; form++ {
			patchset.Print(l, form)
		}
		checkLeft(t, l, want)
	}
}

// fill puts something of its own into all of an answer, and behind its ends.
func fill(l []api.Patch, n int) {
	l = l[:cap(l)]
	for i := range l {
		made := l[i].Hunks[:cap(l[i].Hunks)]
		for j := range made {
			marks := made[j].Lines[:cap(made[j].Lines)]
			for k := range marks {
				marks[k] = api.Mark{Sign: byte(n), Text: "filled"}
			}
			made[j] = api.Hunk{A: n}
		}
		l[i] = api.Patch{Old: "filled"}
	}
}

func TestWhatIsAnsweredIsNewMemory(t *testing.T) {
	for _, want := range somePatches() {
		l := spare(want)
		back, again := patchset.Invert(l), patchset.Invert(l)
		fill(back, -7)
		checkLeft(t, l, want)
		if !samples.SamePatches(again, invertByWords(want)) {
			t.Errorf("%s: two answers share memory: %s", told(want), told(again))
		}
	}
	for _, c := range rightTexts() {
		for _, text := range []string{c.text, "a\n" + between(c.text, "\n")} {
			read, _, _ := patchset.Parse(text)
			again, _, _ := patchset.Parse(text)
			fill(read, -7)
			if !samples.SamePatches(again, c.want) {
				t.Errorf("%s: two answers share memory: %s", told(text), told(again))
			}
			checkParse(t, text, c.want, c.form)
		}
	}
}

// No two lists of one answer share any.
func TestListsOfAnAnswerAreApart(t *testing.T) {
	check := func(l []api.Patch) {
		want := slices.Clone(l)
		var marks [][]api.Mark
		for i, p := range l {
			want[i].Hunks = slices.Clone(p.Hunks)
			for _, h := range p.Hunks {
				marks = append(marks, h.Lines)
			}
		}
		for _, p := range l {
			room := p.Hunks[len(p.Hunks):cap(p.Hunks)]
			for j := range room {
				room[j] = api.Hunk{A: -7}
			}
		}
		if !samples.SamePatches(l, want) || !samples.Apart(func(i int) api.Mark { return api.Mark{Sign: byte(i), Text: "filled"} }, marks...) {
			t.Errorf("lists of %s share memory", told(l))
		}
	}
	for _, l := range somePatches() {
		check(patchset.Invert(l))
	}
	for _, c := range rightTexts() {
		l, _, _ := patchset.Parse(c.text)
		check(l)
	}
}

// Each fault is one of its own: who changes it does not change what is told later.
func TestFaultsAreNewMemory(t *testing.T) {
	texts := []string{"@", "a\n@", strings.Repeat("\n", api.MaxText+1)}
	for _, c := range slices.Concat(wrongUnified(), wrongContext(), wrongNormal()) {
		texts = append(texts, c.text, "a\n"+c.text)
	}
	for _, text := range texts {
		fault := func() error {
			_, _, err := patchset.Parse(text)
			return err
		}
		if !samples.OwnFaults(fault) {
			t.Errorf("%s: faults share memory, or there are none", told(text))
		}
	}
}

// What was told of another text says nothing of the next one.
func TestNothingLastsFromCallToCall(t *testing.T) {
	for range 3 {
		for _, c := range rightTexts() {
			checkFault(t, "a\n@", 2, api.ErrFormat)
			checkParse(t, c.text, c.want, c.form)
			checkFault(t, c.text+"@", strings.Count(c.text, "\n")+1, api.ErrText)
			checkParse(t, "", nil, 0)
			checkPrint(t, []api.Patch{{}}, 0, "", api.ErrKind)
			checkPrintByWords(t, c.want)
			checkPrint(t, []api.Patch{tooLongName()}, c.form, "", api.ErrName)
			checkStrip(t, "a/b", 1, "b")
		}
	}
}

// Searches for what breaks a promise.

func FuzzParse(f *testing.F) {
	f.Add("")
	f.Add("diff -u a b\n--- a\n+++ b\n@@ -1 +1 @@\n-x\n\n+y\n")
	for _, c := range rightTexts() {
		f.Add(c.text)
	}
	for _, c := range slices.Concat(wrongUnified(), wrongContext(), wrongNormal()) {
		f.Add("Index: a\n" + c.text)
	}
	f.Fuzz(func(t *testing.T, text string) {
		checkByWords(t, text)
		for _, c := range rightTexts() {
			checkByWords(t, c.text+text)
		}
		if found, form, at, code := parseByWords(text); code == api.OK {
			checkRead(t, text, found, form)
		} else if more := "a\n" + between(text, "\n"); at > 0 && at <= strings.Count(text, "\n") {
			checkFault(t, more, 2*at, code)
		}
	})
}

func FuzzPrint(f *testing.F) {
	f.Add("", "", "", "")
	f.Add("a", "b c", "\x03\x04", "b")
	f.Add("/dev/null", "\"\\\xff", "\x00\x03\x04\x00\x00\x03\x00\x00\x00\x04\x03", "--- a\n\n+++ b\n1d0\n@@ -1 +1 @@\n x\n-y\nend")
	f.Fuzz(func(t *testing.T, old, made, s, text string) {
		signs := samples.Signs(s[:min(len(s), 500)])
		_, b := samples.Pair(signs)
		b = samples.Right(text, len(b))
		a := samples.Before(signs, b)
		var all []api.Patch
		for _, context := range []int{0, 1, 3} {
			l, err := hunks.Make(samples.Script(signs), a, b, context)
			if err != api.OK {
				t.Fatalf("no hunks: %d", err)
			}
			p := api.Patch{Old: old, New: made, Hunks: l}
			checkPrintByWords(t, []api.Patch{p})
			all = append(all, p)
		}
		checkPrintByWords(t, all)
		checkBack(t, all)
		if _, code := printByWords(all, api.FUnified); code == api.OK && len(text) < api.MaxText/100 {
			checkThereAndBack(t, all)
		}
	})
}

func FuzzStrip(f *testing.F) {
	f.Add("a/b/c", 1)
	f.Add("//", 2)
	f.Add("", -1)
	f.Fuzz(func(t *testing.T, name string, n int) {
		checkStrip(t, name, n, stripByWords(name, n))
		checkStrip(t, name, n%9, stripByWords(name, n%9))
	})
}

package unified_test

import (
	"slices"
	"strings"
	"testing"

	"redline/api"
	"redline/hunks"
	"redline/lines"
	"redline/samples"
	"redline/unified"
)

// Promise 16.4. (That what is read are right patches, and is read again, checkParse says of all that is read.)

// checkThereAndBack says what follows of right patches: they are read from their texts as they were, if they have hunks.
func checkThereAndBack(t *testing.T, l ...api.Patch) {
	t.Helper()
	var text strings.Builder
	var want []api.Patch
	for _, p := range l {
		s, code := unified.Print(p)
		if code != api.OK {
			t.Fatalf("%s: %d", told(p), code)
		}
		text.WriteString(s)
		if len(p.Hunks) > 0 {
			want = append(want, p)
		}
	}
	if text.Len() <= api.MaxText {
		checkParse(t, text.String(), want)
	}
}

// A right hunk is read as it was, in whatever order its lines are.
func TestRightPatchesAreReadAsTheyWere(t *testing.T) {
	var all []api.Hunk
	samples.Texts(" -+", 7, func(signs string) {
		samples.Ends(samples.SignedHunk(signs), func(h api.Hunk) {
			if hunks.Check(h) == api.OK {
				all = append(all, h)
				checkThereAndBack(t, patchOf(h))
			}
		})
	})
	if len(all) < 5000 {
		t.Fatalf("only %d hunks are right", len(all))
	}
	checkThereAndBack(t, patchOf(all[:api.MaxHunks]...))
	checkThereAndBack(t, patchOf(all[len(all)-api.MaxHunks:]...))
	var l []api.Patch
	for i := range api.MaxFiles {
		l = append(l, api.Patch{Old: strings.Repeat("\x01", i), New: strings.Repeat("x", i), Hunks: all[i*i : i*i+i]})
	}
	checkThereAndBack(t, l...)
}

func TestRightPatchesOfAllNumbersAreReadAsTheyWere(t *testing.T) {
	numbers := []int{0, 1, 2, 9, 10, 99, 4096, 1<<31 - 2, 1<<31 - 1}
	for _, a := range numbers {
		for _, b := range numbers {
			for _, signs := range []string{"-", "+", "-+", " -", "+ ", "--", "++", " - + "} {
				h := samples.SignedHunk(signs)
				h.A, h.B = a, b
				if hunks.Check(h) == api.OK {
					checkThereAndBack(t, patchOf(h, h))
				}
			}
		}
	}
}

// checkScript says it of a script between right lines, with more and more lines that are kept around its changes; where it keeps a line without its feed that is another line in b, there may be no right hunk.
func checkScript(t *testing.T, l []api.Change, a, b []string) {
	t.Helper()
	if lines.Check(a) != api.OK || lines.Check(b) != api.OK {
		t.Fatalf("%s or %s are no right lines", told(a), told(b))
	}
	for _, context := range []int{0, 1, 2, 3, 100} {
		made, code := hunks.Make(l, a, b, context)
		if code != api.OK {
			t.Fatalf("no hunks of %s: %d", told(l), code)
		}
		p := patchOf(made...)
		if slices.ContainsFunc(made, func(h api.Hunk) bool { return hunks.Check(h) != api.OK }) {
			checkPrintByWords(t, p)
			continue
		}
		checkThereAndBack(t, p)
	}
}

// checkSigns says it of what signs make b out of, where these are right lines, with and without b's last line feed.
func checkSigns(t *testing.T, signs string, b []string) {
	t.Helper()
	for _, b := range [][]string{b, samples.Unfed(b)} {
		a := samples.Before(signs, b)
		if lines.Check(a) != api.OK || lines.Check(b) != api.OK {
			continue
		}
		checkScript(t, samples.Script(signs), a, b)
		if strings.HasSuffix(signs, "-") {
			checkScript(t, samples.Script(signs), samples.Unfed(a), b)
		}
	}
}

// Lines that look like parts of the form, empty ones and such of all bytes.
func TestWhatIsPrintedIsReadAgainOfAnyLines(t *testing.T) {
	odd := []string{"\n", " \n", "  \n", " x\n", "-x\n", "+x\n", "-- a\n", "++ b\n", "--- a\n", "+++ b\n", "@@ -1 +1 @@\n", noFeed, "\\\n", "\r\n", "\x00\n", "\xff\xfe\n"}
	for _, x := range odd {
		for _, y := range odd {
			for _, signs := range []string{"++", "--++", "=+", "+=", "-+=", "+-=", "=-+", "-==", "=-=", "==-"} {
				checkSigns(t, signs, []string{x, y})
			}
		}
	}
	for c := range 256 {
		if line := string([]byte{byte(c)}); c != '\n' {
			checkSigns(t, "-+", []string{line + "\n"})
			checkSigns(t, "+=", []string{"a" + line + "\n", line + "\n"})
		}
	}
}

func TestWhatIsPrintedIsReadAgainOfAllEngines(t *testing.T) {
	samples.TextPairs(func(a, b []string, o api.Ignore) {
		samples.Engines(a, b, o, func(l []api.Change) { checkScript(t, l, a, b) })
	})
}

func TestWhatIsPrintedIsReadAgainUpToTheLimit(t *testing.T) {
	signs := strings.Repeat("-=", api.MaxHunks)
	_, b := samples.Pair(signs)
	checkSigns(t, signs, b)
	_, b = samples.Pair(signs + "+")
	made, err := hunks.Make(samples.Script(signs+"+"), samples.Before(signs+"+", b), b, 0)
	if err != api.OK || len(made) != api.MaxHunks+1 {
		t.Fatalf("%d hunks, %d", len(made), err)
	}
	checkPrint(t, patchOf(made...), "", api.ErrLong)
	checkThereAndBack(t, patchOf(made[1:]...))
}

// Rule R4.

func TestWhatIsHandedInIsLeftAlone(t *testing.T) {
	behind := api.Mark{Sign: 9, Text: "behind"}
	for _, signs := range []string{"", " ", "-", "+", "-+", "+-", " + - ", "-+ -+-+ +-"} {
		want := samples.SignedHunk(signs)
		for _, code := range []int{0, 1} {
			h := want
			h.AN += code // right once, and then wrong
			h.Lines = samples.Spare(want.Lines, behind)
			l := append([]api.Hunk{h, h}, api.Hunk{A: 77})[:2]
			p := api.Patch{Old: "a b", New: "\xff", Hunks: l}
			unified.Print(p)
			p.Old = strings.Repeat("x", 100)
			unified.Print(p)
			if !samples.Left(h.Lines, want.Lines, behind) || l[:3][2].A != 77 || l[0].A != want.A || l[1].AN != want.AN+code {
				t.Errorf("%q: what was handed in has become %s", signs, told(l))
			}
		}
	}
}

func TestWhatIsReadIsNewMemory(t *testing.T) {
	mark := func(i int) api.Mark { return api.Mark{Sign: byte(i), Text: "filled"} }
	hunk := func(l []api.Hunk) { l[:cap(l)][cap(l)-1].A, l[0].A = -7, -7 }
	for _, text := range []string{names + goes, aText, aText + aText, names + strings.Repeat(goes, 9) + aText} {
		read, err := unified.Parse(text)
		again, _ := unified.Parse(text)
		if err != nil || !samples.SamePatches(read, again) {
			t.Fatalf("%s, %v, and then %s", told(read), err, told(again))
		}
		var l [][]api.Mark
		for _, p := range slices.Concat(read, again) {
			for _, h := range p.Hunks {
				l = append(l, h.Lines)
			}
		}
		if !samples.Apart(mark, l...) {
			t.Errorf("%s: lines of hunks share memory", told(text))
		}
		for i := range read {
			hunk(read[i].Hunks)
			for j, p := range slices.Concat(read[i+1:], again) {
				if p.Hunks[0].A == -7 {
					t.Errorf("%s: rows of hunks %d and %d share memory", told(text), i, j)
				}
			}
		}
		read[0] = api.Patch{Old: "filled"}
		if again[0].Old == "filled" {
			t.Errorf("%s: rows of patches share memory", told(text))
		}
	}
}

// Each fault is one of its own: who changes it does not change what is told later.
func TestFaultsAreNewMemory(t *testing.T) {
	for _, text := range []string{
		"x\n", names, "--- \n", names + hunkText("0,0", "0,0"), names + hunkText("0", "1", "-x\n"), names + hunkText("1", "1", "x\n"),
		strings.Repeat("x", api.MaxText+1), strings.Repeat(names+goes, api.MaxFiles+1), names + strings.Repeat(goes, api.MaxHunks+1),
	} {
		fault := func() error {
			_, err := unified.Parse(text)
			return err
		}
		if !samples.OwnFaults(fault) {
			t.Errorf("%s: faults share memory, or there are none", told(text))
		}
	}
}

// What was told of another text says nothing of the next one.
func TestNothingLastsFromCallToCall(t *testing.T) {
	for range 3 {
		checkFault(t, names, 3, api.ErrShort)
		checkParse(t, names+goes, []api.Patch{patchOf(gone())})
		checkFault(t, names+hunkText("1", "1", " x\n"), 3, api.ErrScript)
		checkParse(t, "", nil)
		checkPrint(t, patchOf(api.Hunk{}), "", api.ErrScript)
		checkPrint(t, patchOf(gone()), names+goes, api.OK)
		checkNoName(t, "a b")
		checkName(t, "a b", `"a b"`)
	}
}

// Searches for what breaks a promise.

func FuzzParse(f *testing.F) {
	for _, text := range []string{"", aText, names + goes, names, names + hunkText("0,0", "1,2", "+x\n", " y\n", noFeed), names + hunkText("1", "1", "-x\n", noFeed, "+y\n"), names + hunkText("1,2", "1,99999999999999999999", "-x\n", " y\n"), "--- \"a\n+++ \n"} {
		f.Add(text)
	}
	f.Fuzz(func(t *testing.T, text string) {
		checkByWords(t, text)
		checkByWords(t, names+text)
		checkByWords(t, names+"@@ -1 +1,2 @@\n"+text)
		checkByWords(t, names+goes+text)
	})
}

func FuzzNames(f *testing.F) {
	for _, s := range []string{"", "a", "a b", `"a b"`, "/dev/null", `"\22"`, `"\ff\00`, "\xff"} {
		f.Add(s)
	}
	f.Fuzz(func(t *testing.T, s string) {
		checkName(t, s, samples.NameText(s))
		if name, ok := samples.NameFrom(s); ok {
			checkName(t, name, s)
		} else {
			checkNoName(t, s)
		}
	})
}

func FuzzPrint(f *testing.F) {
	f.Add("", "", "", "")
	f.Add("a", "b c", "\x03\x04", "b")
	f.Add("/dev/null", "\"\\\xff", "\x00\x03\x04\x00\x00\x03\x00\x00\x00\x04\x03", "--- a\n\n+++ b\n@@ -1 +1 @@\n x\n-y\nend")
	f.Fuzz(func(t *testing.T, old, made, s, text string) {
		signs := samples.Signs(s[:min(len(s), 2000)])
		_, b := samples.Pair(signs)
		b = samples.Right(text, len(b))
		a := samples.Before(signs, b)
		for _, context := range []int{0, 1, 3} {
			l, err := hunks.Make(samples.Script(signs), a, b, context)
			if err != api.OK {
				t.Fatalf("no hunks: %d", err)
			}
			p := api.Patch{Old: old, New: made, Hunks: l}
			checkPrintByWords(t, p)
			if _, err := printByWords(p); err == api.OK {
				checkThereAndBack(t, p, p)
			}
		}
	})
}

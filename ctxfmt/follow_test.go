package ctxfmt_test

import (
	"slices"
	"strings"
	"testing"

	"redline/api"
	"redline/ctxfmt"
	"redline/hunks"
	"redline/lines"
	"redline/samples"
)

// Promise 15.3.

// checkThereAndBack says what follows of a patch that hunks.Make has made of right lines: it is read from its text as it was.
func checkThereAndBack(t *testing.T, p api.Patch) {
	t.Helper()
	text, code := ctxfmt.Print(p)
	if code != api.OK {
		t.Fatalf("%s: %d", told(p), code)
	}
	if len(p.Hunks) == 0 {
		checkParse(t, text, nil)
		return
	}
	if len(text) <= api.MaxText {
		checkParse(t, text, []api.Patch{p})
	}
}

// checkScript says it of a script between right lines, with more and more lines that are kept around its changes; where it keeps a line without its feed that is another line in b, there may be no right hunk.
func checkScript(t *testing.T, l []api.Change, a, b []string) {
	t.Helper()
	if lines.Check(a) != api.OK || lines.Check(b) != api.OK {
		t.Fatalf("%s or %s are no right lines", told(a), told(b))
	}
	for _, context := range []int{0, 1, 2, 3, 100} {
		made, code := hunks.Make(l, a, b, context)
		if code != api.OK {
			t.Fatalf("no hunks of %s: %d", told(l), code)
		}
		p := patchOf(made...)
		if slices.ContainsFunc(made, func(h api.Hunk) bool { return hunks.Check(h) != api.OK }) {
			checkPrintByWords(t, p)
			continue
		}
		checkThereAndBack(t, p)
	}
}

// checkSigns says it of what signs make b out of, where these are right lines, with and without b's last line feed.
func checkSigns(t *testing.T, signs string, b []string) {
	t.Helper()
	for _, b := range [][]string{b, samples.Unfed(b)} {
		a := samples.Before(signs, b)
		if lines.Check(a) != api.OK || lines.Check(b) != api.OK {
			continue
		}
		checkScript(t, samples.Script(signs), a, b)
		if strings.HasSuffix(signs, "-") {
			checkScript(t, samples.Script(signs), samples.Unfed(a), b)
		}
	}
}

func TestWhatIsPrintedIsReadAgainOfAllShortTexts(t *testing.T) {
	samples.Texts("=-+", 7, func(signs string) {
		a, b := samples.Pair(signs)
		checkSigns(t, signs, b)
		checkScript(t, samples.Script(signs), a, b)
		checkScript(t, samples.Script(signs), samples.Unfed(a), b)
		checkScript(t, samples.Script(signs), a, samples.Unfed(b))
	})
	for _, signs := range []string{"==-====+===", "=-+======-+==", "-=+=-+=--=++", "=====-====----===+++=======+", "+++++++++++", "-----------+"} {
		_, b := samples.Pair(signs)
		checkSigns(t, signs, b)
	}
}

// Lines that look like parts of the form, empty ones and such of all bytes.
func TestWhatIsPrintedIsReadAgainOfAnyLines(t *testing.T) {
	odd := []string{"\n", " \n", "  \n", "  x\n", "- x\n", "+ x\n", "! x\n", "--- b\n", "*** a\n", starLine, "*** 1 ****\n", "--- 1 ----\n", noFeed, "\\\n", "\r\n", "\x00\n", "\xff\xfe\n"}
	for _, x := range odd {
		for _, y := range odd {
			for _, signs := range []string{"++", "--++", "=+", "+=", "-+=", "+-=", "=-+", "-==", "=-=", "==-"} {
				checkSigns(t, signs, []string{x, y})
			}
		}
	}
	for c := range 256 {
		if line := string([]byte{byte(c)}); c != '\n' {
			checkSigns(t, "-+", []string{line + "\n"})
			checkSigns(t, "+=", []string{"a" + line + "\n", line + "\n"})
		}
	}
}

func TestWhatIsPrintedIsReadAgainOfAllEngines(t *testing.T) {
	samples.TextPairs(func(a, b []string, o api.Ignore) {
		samples.Engines(a, b, o, func(l []api.Change) { checkScript(t, l, a, b) })
	})
}

func TestWhatIsPrintedIsReadAgainUpToTheLimit(t *testing.T) {
	signs := strings.Repeat("-=", api.MaxHunks)
	_, b := samples.Pair(signs)
	checkSigns(t, signs, b)
	_, b = samples.Pair(signs + "+")
	made, err := hunks.Make(samples.Script(signs+"+"), samples.Before(signs+"+", b), b, 0)
	if err != api.OK || len(made) != api.MaxHunks+1 {
		t.Fatalf("%d hunks, %d", len(made), err)
	}
	checkPrint(t, patchOf(made...), "", api.ErrLong)
	checkThereAndBack(t, patchOf(made[1:]...))
}

// A right hunk whose pieces are in any order is read with what goes ahead of what comes, in each piece.
func TestWhatGoesIsReadAheadOfWhatComes(t *testing.T) {
	n := 0
	samples.Texts(" -+", 7, func(signs string) {
		samples.Ends(samples.SignedHunk(signs), func(h api.Hunk) {
			if hunks.Check(h) != api.OK {
				return
			}
			n++
			text, code := ctxfmt.Print(patchOf(h))
			if code != api.OK {
				t.Fatalf("%s: %d", told(h), code)
			}
			checkParse(t, text, []api.Patch{patchOf(sorted(h))})
		})
	})
	if n < 5000 {
		t.Errorf("only %d hunks are right", n)
	}
}

// sorted is a hunk with what goes ahead of what comes, in each piece.
func sorted(h api.Hunk) api.Hunk {
	l := slices.Clone(h.Lines)
	for from := 0; from < len(l); from++ {
		to := from
		for to < len(l) && l[to].Sign != api.Same {
			to++
		}
		slices.SortStableFunc(l[from:to], func(x, y api.Mark) int { return int(y.Sign) - int(x.Sign) })
		from = to
	}
	h.Lines = l
	return h
}

// Rule R4.

func TestWhatIsHandedInIsLeftAlone(t *testing.T) {
	behind := api.Mark{Sign: 9, Text: "behind"}
	for _, signs := range []string{"", " ", "-", "+", "-+", "+-", " + - ", "-+ -+-+ +-"} {
		want := samples.SignedHunk(signs)
		for _, code := range []int{0, 1} {
			h := want
			h.AN += code // right once, and then wrong
			h.Lines = samples.Spare(want.Lines, behind)
			l := append([]api.Hunk{h, h}, api.Hunk{A: 77})[:2]
			p := api.Patch{Old: "a b", New: "\xff", Hunks: l}
			ctxfmt.Print(p)
			p.Old = strings.Repeat("x", 100)
			ctxfmt.Print(p)
			if !samples.Left(h.Lines, want.Lines, behind) || l[:3][2].A != 77 || l[0].A != want.A || l[1].AN != want.AN+code {
				t.Errorf("%q: what was handed in has become %s", signs, told(l))
			}
		}
	}
}

func TestWhatIsReadIsNewMemory(t *testing.T) {
	mark := func(i int) api.Mark { return api.Mark{Sign: byte(i), Text: "filled"} }
	hunk := func(l []api.Hunk) { l[:cap(l)][cap(l)-1].A, l[0].A = -7, -7 }
	for _, text := range []string{names + goes, aText, aText + aText, names + strings.Repeat(goes, 9) + aText} {
		read, err := ctxfmt.Parse(text)
		again, _ := ctxfmt.Parse(text)
		if err != nil || !samples.SamePatches(read, again) {
			t.Fatalf("%s, %v, and then %s", told(read), err, told(again))
		}
		var l [][]api.Mark
		for _, p := range slices.Concat(read, again) {
			for _, h := range p.Hunks {
				l = append(l, h.Lines)
			}
		}
		if !samples.Apart(mark, l...) {
			t.Errorf("%s: lines of hunks share memory", told(text))
		}
		for i := range read {
			hunk(read[i].Hunks)
			for j, p := range slices.Concat(read[i+1:], again) {
				if p.Hunks[0].A == -7 {
					t.Errorf("%s: rows of hunks %d and %d share memory", told(text), i, j)
				}
			}
		}
		read[0] = api.Patch{Old: "filled"}
		if again[0].Old == "filled" {
			t.Errorf("%s: rows of patches share memory", told(text))
		}
	}
}

// Each fault is one of its own: who changes it does not change what is told later.
func TestFaultsAreNewMemory(t *testing.T) {
	for _, text := range []string{
		"x\n", names, "*** \n", names + hunkText("0", "", "0", ""), names + hunkText("1,2", "- x\n", "0", ""), names + hunkText("0", "- x\n", "0", ""), names + hunkText("1", "! x\n", "0", ""),
		strings.Repeat("x", api.MaxText+1), strings.Repeat(names+goes, api.MaxFiles+1), names + strings.Repeat(goes, api.MaxHunks+1),
	} {
		fault := func() error {
			_, err := ctxfmt.Parse(text)
			return err
		}
		if !samples.OwnFaults(fault) {
			t.Errorf("%s: faults share memory, or there are none", told(text))
		}
	}
}

// What was told of another text says nothing of the next one.
func TestNothingLastsFromCallToCall(t *testing.T) {
	for range 3 {
		checkFault(t, names, 3, api.ErrShort)
		checkParse(t, names+goes, []api.Patch{patchOf(gone())})
		checkFault(t, names+hunkText("1", "! x\n", "0", ""), 3, api.ErrMatch)
		checkParse(t, "", nil)
		checkPrint(t, patchOf(api.Hunk{}), "", api.ErrScript)
		checkPrint(t, patchOf(gone()), names+goes, api.OK)
	}
}

// Searches for what breaks a promise.

func FuzzParse(f *testing.F) {
	for _, text := range []string{"", aText, names + goes, names, names + hunkText("0", "", "1,2", "+ x\n  y\n"+noFeed), names + hunkText("1", "- x\n", "1", "+ y\n"), names + hunkText("1,2", "! x\n  y\n", "1,99999999999999999999", "! z\n  y\n"), "*** \"a\n--- \n"} {
		f.Add(text)
	}
	f.Fuzz(func(t *testing.T, text string) {
		checkByWords(t, text)
		checkByWords(t, names+starLine+"*** 1 ****\n"+text)
		checkByWords(t, names+starLine+"*** 1,2 ****\n"+text+"--- 1,2 ----\n"+text)
	})
}

func FuzzPrint(f *testing.F) {
	f.Add("", "", "", "")
	f.Add("a", "b c", "\x03\x04", "b")
	f.Add("/dev/null", "\"\\\xff", "\x00\x03\x04\x00\x00\x03\x00\x00\x00\x04\x03", "*** a\n\n--- 1 ----\n  x\n- y\nend")
	f.Fuzz(func(t *testing.T, old, made, s, text string) {
		signs := samples.Signs(s[:min(len(s), 2000)]) // the words look through a piece anew for each of its lines
		_, b := samples.Pair(signs)
		b = samples.Right(text, len(b))
		a := samples.Before(signs, b)
		for _, context := range []int{0, 1, 3} {
			l, err := hunks.Make(samples.Script(signs), a, b, context)
			if err != api.OK {
				t.Fatalf("no hunks: %d", err)
			}
			p := api.Patch{Old: old, New: made, Hunks: l}
			checkPrintByWords(t, p)
			if _, err := printByWords(p); err == api.OK && lines.Check(a) == api.OK {
				checkThereAndBack(t, p)
			}
		}
	})
}

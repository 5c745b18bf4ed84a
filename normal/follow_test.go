package normal_test

import (
	"slices"
	"strings"
	"testing"

	"redline/api"
	"redline/hunks"
	"redline/lines"
	"redline/normal"
	"redline/samples"
)

// Promise 12.3.

// checkThereAndBack says what follows of a right script between right lines: what Print makes of it is read as the hunks without context, and these are the script.
func checkThereAndBack(t *testing.T, l []api.Change, a, b []string) {
	t.Helper()
	if lines.Check(a) != api.OK || lines.Check(b) != api.OK {
		t.Fatalf("%s or %s are no right lines", told(a), told(b))
	}
	text, err := normal.Print(l, a, b)
	if err != api.OK {
		t.Fatalf("%s of %s and %s: %d", told(l), told(a), told(b), err)
	}
	made, err := hunks.Make(l, a, b, 0)
	if err != api.OK {
		t.Fatalf("no hunks of %s: %d", told(l), err)
	}
	checkParse(t, text, made)
	read, _ := normal.Parse(text)
	if script, err := hunks.Changes(read); err != api.OK || !slices.Equal(script, l) {
		t.Errorf("%s is the script %s, %d, want %s", told(text), told(script), err, told(l))
	}
}

// checkAllEnds says it of texts with and without the last line feeds.
func checkAllEnds(t *testing.T, l []api.Change, a, b []string) {
	t.Helper()
	checkThereAndBack(t, l, a, b)
	checkThereAndBack(t, l, samples.Unfed(a), b)
	checkThereAndBack(t, l, a, samples.Unfed(b))
	checkThereAndBack(t, l, samples.Unfed(a), samples.Unfed(b))
}

func TestWhatIsPrintedIsReadAgainOfAllShortTexts(t *testing.T) {
	samples.Texts("=-+", 7, func(signs string) {
		a, b := samples.Pair(signs)
		checkAllEnds(t, samples.Script(signs), a, b)
	})
	for _, c := range printCases() {
		a, b := samples.Pair(c.signs)
		checkAllEnds(t, samples.Script(c.signs), a, b)
	}
}

// Lines that look like parts of the form, empty ones and such of all bytes.
func TestWhatIsPrintedIsReadAgainOfAnyLines(t *testing.T) {
	odd := []string{"\n", " \n", "---\n", "< a\n", "> a\n", "1d0\n", noFeed, "\\\n", "\r\n", "\x00\n", "\xff\xfe\n"}
	ends := []string{"x", " ", "---", "1d0", "\r", "\x00", strings.TrimSuffix(noFeed, "\n")}
	for _, line := range odd {
		for _, other := range odd {
			l := []string{line, other}
			checkThereAndBack(t, samples.Script("--++"), l, samples.Turned(l))
			checkThereAndBack(t, samples.Script("--"), l, nil)
			checkThereAndBack(t, samples.Script("-+="), l, samples.Turned(l))
		}
		for _, end := range ends {
			l := []string{line, end}
			checkThereAndBack(t, samples.Script("--++"), l, l)
			checkThereAndBack(t, samples.Script("++"), nil, l)
			checkThereAndBack(t, samples.Script("=-+"), l, l)
		}
	}
	for c := range 256 {
		line := string([]byte{byte(c)})
		if c != '\n' {
			checkThereAndBack(t, samples.Script("-+"), []string{line}, []string{line + "\n"})
		}
	}
}

func TestWhatIsPrintedIsReadAgainOfAllEngines(t *testing.T) {
	samples.TextPairs(func(a, b []string, o api.Ignore) {
		samples.Engines(a, b, o, func(l []api.Change) { checkThereAndBack(t, l, a, b) })
	})
}

// Up to the limit nothing is refused, above it Parse alone does.
func TestWhatIsPrintedIsReadAgainUpToTheLimit(t *testing.T) {
	signs := strings.Repeat("-=", api.MaxHunks)
	a, b := samples.Pair(signs)
	checkThereAndBack(t, samples.Script(signs), a, b)
	a, b = samples.Pair(signs + "+")
	text, err := normal.Print(samples.Script(signs+"+"), a, b)
	if err != api.OK {
		t.Fatalf("not printed: %d", err)
	}
	checkFault(t, text, 2*api.MaxHunks+1, api.ErrLong)
}

// Rule R4.

func TestWhatIsHandedInIsLeftAlone(t *testing.T) {
	behind := api.Change{A: 9}
	for _, signs := range []string{"", "===", "-", "+", "=-+=", "-=+==-=+", "=-+=====-+==", "==--++===+====-"} {
		script := samples.Script(signs)
		wantA, wantB := samples.Pair(signs)
		l, a, b := samples.Spare(script, behind), samples.Spare(wantA, "behind"), samples.Spare(wantB, "behind")
		normal.Print(l, a, b)
		normal.Print(l, a, b[:0])
		normal.Print(l, a[:0], b)
		if !samples.Left(l, script, behind) || !samples.Left(a, wantA, "behind") || !samples.Left(b, wantB, "behind") {
			t.Errorf("%s: what was handed in has become %s, %s and %s", signs, told(l), told(a), told(b))
		}
	}
}

func TestWhatIsReadIsNewMemory(t *testing.T) {
	mark := func(i int) api.Mark { return api.Mark{Sign: byte(i), Text: "filled"} }
	for _, text := range []string{"1d0\n< a\n", aText, strings.Repeat(aText, 5)} {
		read, err := normal.Parse(text)
		again, _ := normal.Parse(text)
		if err != nil || !samples.SameHunks(read, again) {
			t.Fatalf("%s, %v, and then %s", told(read), err, told(again))
		}
		var l [][]api.Mark
		for _, h := range slices.Concat(read, again) {
			l = append(l, h.Lines)
		}
		if !samples.Apart(mark, l...) {
			t.Errorf("%s: lines of hunks share memory", told(text))
		}
		read[0] = api.Hunk{A: -7}
		if again[0].A == -7 {
			t.Errorf("%s: rows of hunks share memory", told(text))
		}
	}
}

// Each fault is one of its own: who changes it does not change what is told later.
func TestFaultsAreNewMemory(t *testing.T) {
	for _, text := range []string{"x\n", "1d0\n", strings.Repeat("x", api.MaxText+1), strings.Repeat("1d0\n< a\n", api.MaxHunks+1)} {
		fault := func() error {
			_, err := normal.Parse(text)
			return err
		}
		if !samples.OwnFaults(fault) {
			t.Errorf("%s: faults share memory, or there are none", told(text))
		}
	}
}

// What was told of another text says nothing of the next one.
func TestFaultsDoNotLast(t *testing.T) {
	for range 3 {
		checkFault(t, "1d0\n", 2, api.ErrShort)
		checkParse(t, "1d0\n< a\n", []api.Hunk{samples.Hunk([4]int{1, 1, 0, 0}, "-a\n")})
		checkFault(t, "1d0\n< a\nx\n", 3, api.ErrText)
		checkParse(t, "", nil)
	}
}

// Searches for what breaks a promise.

func FuzzParse(f *testing.F) {
	for _, text := range []string{
		"", aText, "1d0\n< a\n", "2a1\n", "1,1d0\n", "1d0\n> a\n", "1c1\n< a\n" + noFeed + "---\n> b", "1,2147483647d2147483648\n", "0a1,2\n> \n> \n" + noFeed,
	} {
		f.Add(text)
	}
	f.Fuzz(func(t *testing.T, text string) { checkByWords(t, text) })
}

func FuzzPrint(f *testing.F) {
	f.Add("", "", "")
	f.Add("\x03\x04", "a\n", "b")
	f.Add("\x00\x03\x04\x00\x00\x03\x00\x00\x00\x04\x03", "1\n\n---\n< a\n", "\\ No newline at end of file\nx\n1d0\n\n\x00")
	f.Fuzz(func(t *testing.T, s, old, made string) {
		signs := samples.Signs(s)
		a, b := samples.Pair(signs)
		a, b = samples.Right(old, len(a)), samples.Right(made, len(b))
		l := samples.Script(signs)
		checkPrint(t, l, a, b, printByWords(l, a, b), api.OK)
		if len(l) <= api.MaxHunks && len(printByWords(l, a, b)) <= api.MaxText {
			checkThereAndBack(t, l, a, b)
		}
		checkPrint(t, l, append(a, "x"), b, "", api.ErrScript)
	})
}

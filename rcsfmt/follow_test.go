package rcsfmt_test

import (
	"slices"
	"strings"
	"testing"

	"redline/api"
	"redline/lines"
	"redline/rcsfmt"
	"redline/samples"
)

// Promise 14.3.

// checkThereAndBack says what follows of right lines, and a script between them that keeps only lines that are the same: what Print makes of it, run with a, is b.
func checkThereAndBack(t *testing.T, l []api.Change, a, b []string) {
	t.Helper()
	if lines.Check(a) != api.OK || lines.Check(b) != api.OK {
		t.Fatalf("%s or %s are no right lines", told(a), told(b))
	}
	text, err := rcsfmt.Print(l, a, b)
	if err != api.OK {
		t.Fatalf("%s of %s and %s: %d", told(l), told(a), told(b), err)
	}
	checkRun(t, text, a, b)
}

// checkSigns says it of what signs make b out of, where these are right lines, with and without b's last line feed.
func checkSigns(t *testing.T, signs string, b []string) {
	t.Helper()
	for _, b := range [][]string{b, samples.Unfed(b)} {
		a := samples.Before(signs, b)
		if lines.Check(a) != api.OK || lines.Check(b) != api.OK {
			continue
		}
		checkThereAndBack(t, samples.Script(signs), a, b)
		if strings.HasSuffix(signs, "-") {
			checkThereAndBack(t, samples.Script(signs), samples.Unfed(a), b)
		}
	}
}

func TestWhatIsPrintedMakesTheTextOfAllShortTexts(t *testing.T) {
	samples.Texts("=-+", 8, func(signs string) {
		_, b := samples.Pair(signs)
		checkSigns(t, signs, b)
	})
	for _, c := range printCases() {
		_, b := samples.Pair(c.signs)
		checkSigns(t, c.signs, b)
	}
}

// Lines that look like commands, are empty, or lack their line feed.
func TestWhatIsPrintedMakesTheTextOfOddLines(t *testing.T) {
	odd := []string{"d1 1\n", "a0 1\n", "\n", "x\n"}
	samples.Texts("=-+", 5, func(signs string) {
		_, b := samples.Pair(signs)
		samples.Lists(odd, len(b), func(l []string) {
			if len(l) == len(b) {
				checkSigns(t, signs, l)
			}
		})
	})
	more := []string{"d1 2\n", "a1 2\n", "d0 0\n", "a99 99\n", "d1 1 \n", ".\n", "\r\n", "\x00\n", "\xff\xfe\n", "\n", "\\ No newline at end of file\n"}
	for _, x := range more {
		for _, y := range more {
			for _, signs := range []string{"++", "--++", "=+", "+=", "-+=", "+-=", "=-+", "=-=", "==-"} {
				checkSigns(t, signs, []string{x, y})
			}
		}
	}
	for c := range 256 {
		if line := string([]byte{byte(c)}); c != '\n' {
			checkSigns(t, "-+", []string{line + "\n"})
			checkSigns(t, "+=", []string{"a" + line + "\n", line + "\n"})
		}
	}
}

// checkEngines says it of the scripts that all engines find.
func checkEngines(t *testing.T, a, b []string) {
	t.Helper()
	samples.Engines(a, b, api.Ignore{}, func(l []api.Change) { checkThereAndBack(t, l, a, b) })
}

// oddly is a line for each class, the first of them commands and empty ones.
func oddly(x []int) []string {
	l := samples.Text(x)
	first := []string{"d1 1\n", "a0 1\n", "\n", "a1 2\n"}
	for i, class := range x {
		if class < len(first) {
			l[i] = first[class]
		}
	}
	return l
}

func TestWhatIsPrintedMakesTheTextOfAllEngines(t *testing.T) {
	samples.Both(2, 4, func(x, y []int) {
		a, b := oddly(x), oddly(y)
		checkEngines(t, a, b)
		checkEngines(t, a, samples.Unfed(b))
		checkEngines(t, samples.Unfed(a), b)
		checkEngines(t, samples.Unfed(a), samples.Unfed(b))
	})
	samples.Mixed(40, 60, func(x, y []int) {
		checkEngines(t, oddly(x), append(oddly(y), "end"))
		checkEngines(t, append(oddly(x), "end"), samples.Text(y))
		checkEngines(t, append(oddly(x), "end"), append(oddly(y), "end"))
	})
	samples.Mixed(4, 900, func(x, y []int) { checkEngines(t, oddly(x), oddly(y)) })
	for _, c := range samples.Plain() {
		checkEngines(t, samples.Text(c.X), samples.Text(c.Y))
	}
}

// Up to the limit nothing is refused, above it Run alone does.
func TestWhatIsPrintedMakesTheTextUpToTheLimit(t *testing.T) {
	line := strings.Repeat("x", api.MaxText-len("a0 1\n\n"))
	checkThereAndBack(t, samples.Script("+"), nil, []string{line + "\n"})
	checkThereAndBack(t, samples.Script("+"), nil, []string{line + "x"})
	text, err := rcsfmt.Print(samples.Script("+"), nil, []string{line + "x\n"})
	if err != api.OK {
		t.Fatalf("not printed: %d", err)
	}
	checkFault(t, text, nil, 0, api.ErrLong)
	checkSigns(t, strings.Repeat("-+=", api.MaxLines/2), samples.Named("b", api.MaxLines))
	checkSigns(t, strings.Repeat("+=-=", api.MaxLines), slices.Repeat([]string{"d1 1\n", "x\n", "\n"}, api.MaxLines))
}

// Rule R4.

func TestWhatIsHandedInIsLeftAlone(t *testing.T) {
	behind := api.Change{A: 9}
	for _, signs := range []string{"", "===", "-", "+", "=-+=", "-=+==-=+", "=-+=====-+==", "==--++===+====-"} {
		script := samples.Script(signs)
		wantA, wantB := samples.Pair(signs)
		l, a, b := samples.Spare(script, behind), samples.Spare(wantA, "behind"), samples.Spare(wantB, "behind")
		text, _ := rcsfmt.Print(l, a, b)
		rcsfmt.Print(l, a, b[:0])
		rcsfmt.Print(l, a[:0], b)
		for _, commands := range []string{text, "", text + "x\n", "a0 1\nx\n", "a0 1\nx", "d1 1\n", "d1 1\na1 2\nx\ny\n", "a1 1\nx\nd2 1\n", "d2 1\nd1 1\n", "a0 9\nx\n"} {
			rcsfmt.Run(commands, a)
			rcsfmt.Run(commands, a[:len(a)/2])
		}
		if !samples.Left(l, script, behind) || !samples.Left(a, wantA, "behind") || !samples.Left(b, wantB, "behind") {
			t.Errorf("%s: what was handed in has become %s, %s and %s", signs, told(l), told(a), told(b))
		}
	}
}

func TestWhatIsAnsweredIsNewMemory(t *testing.T) {
	fill := func(i int) string { return "filled " + string(rune('a'+i)) }
	for _, text := range []string{"", "d1 1\n", "d3 1\n", "a0 1\nx\n", "a3 1\nx\n", "d1 3\na3 1\nx\n", "d1 1\na1 1\nx\nd3 1\n"} {
		for _, n := range []int{3, 4, 600} {
			a := samples.Named("a", n)
			made, err := rcsfmt.Run(text, a)
			again, _ := rcsfmt.Run(text, a)
			if err != nil || !slices.Equal(made, again) {
				t.Fatalf("%s: %s, %v, and then %s", told(text), told(made), err, told(again))
			}
			if !samples.Apart(fill, a, made, again) {
				t.Errorf("%s: lists share memory", told(text))
			}
		}
	}
}

// Each fault is one of its own: who changes it does not change what is told later.
func TestFaultsAreNewMemory(t *testing.T) {
	for _, text := range []string{"x\n", "d2 1\nd1 1\n", "d9 1\n", "a1 1\n", "a0 1\nx", "d1 1", strings.Repeat("x", api.MaxText+1)} {
		fault := func() error {
			_, err := rcsfmt.Run(text, numbered(3))
			return err
		}
		if !samples.OwnFaults(fault) {
			t.Errorf("%s: faults share memory, or there are none", told(text))
		}
	}
}

// What was told of another text says nothing of the next one; nor is kept where a command has ended.
func TestNothingLastsFromCallToCall(t *testing.T) {
	for range 3 {
		checkRun(t, "d2 1\na2 1\nx\n", numbered(2), []string{"1\n", "x\n"})
		checkRun(t, "a0 1\nx\nd1 1\n", numbered(1), []string{"x\n"})
		checkFault(t, "a1 2\nx\n", numbered(3), 3, api.ErrShort)
		checkFault(t, "d2 1\nd1 1\n", numbered(3), 2, api.ErrOrder)
		checkRun(t, "d1 1\n", numbered(1), nil)
		checkRun(t, "", numbered(3), numbered(3))
	}
}

// Searches for what breaks a promise.

func FuzzRun(f *testing.F) {
	for _, text := range []string{
		"", aText, "d2 2\na3 2\nx\ny\n", "a0 1\nx", "d2 1\nd1 1\n", "d3 1\n", "a1 2\nx\n", "a1 1\nx\na1 1\ny\n", "a1 1\nx\nd2 1\na2 1\ny", "d1 99999999999999999999\n", "d1 1", "d01 1\n",
	} {
		f.Add(text, "1\n2\n3\n")
		f.Add(text, "")
		f.Add(text, "d1 1\n\n\xff")
	}
	f.Fuzz(func(t *testing.T, text, old string) {
		checkByWords(t, text, lines.Split(old))
		checkByWords(t, text+"\n", strings.Split(old, "x"))
	})
}

func FuzzPrint(f *testing.F) {
	f.Add("", "")
	f.Add("\x03\x04", "b")
	f.Add("\x00\x03\x04\x00\x00\x03\x00\x00\x00\x04\x03", "d1 1\n\n.\na0 1\nx\nend")
	f.Fuzz(func(t *testing.T, s, made string) {
		signs := samples.Signs(s)
		_, b := samples.Pair(signs)
		b = samples.Right(made, len(b))
		a := samples.Before(signs, b)
		l := samples.Script(signs)
		checkPrint(t, l, a, b, printByWords(signs, b), api.OK)
		if len(printByWords(signs, b)) <= api.MaxText {
			checkSigns(t, signs, b)
		}
		checkPrint(t, l, append(a, "x"), b, "", api.ErrScript)
	})
}

package edfmt_test

import (
	"slices"
	"strings"
	"testing"

	"redline/api"
	"redline/edfmt"
	"redline/lines"
	"redline/samples"
)

// Promise 13.3.

// checkThereAndBack says what follows of right lines, and a script between them that keeps only lines that are the same: what Print makes of it, run with a, is b.
func checkThereAndBack(t *testing.T, l []api.Change, a, b []string) {
	t.Helper()
	if lines.Check(a) != api.OK || lines.Check(b) != api.OK {
		t.Fatalf("%s or %s are no right lines", told(a), told(b))
	}
	text, err := edfmt.Print(l, a, b)
	if err != api.OK {
		t.Fatalf("%s of %s and %s: %d", told(l), told(a), told(b), err)
	}
	checkRun(t, text, a, b)
}

// checkSigns says it of what signs make b out of, where these are right lines, with and without b's last line feed.
func checkSigns(t *testing.T, signs string, b []string) {
	t.Helper()
	for _, b := range [][]string{b, samples.Unfed(b)} {
		a := samples.Before(signs, b)
		if lines.Check(a) != api.OK || lines.Check(b) != api.OK {
			continue
		}
		checkThereAndBack(t, samples.Script(signs), a, b)
		if strings.HasSuffix(signs, "-") {
			checkThereAndBack(t, samples.Script(signs), samples.Unfed(a), b)
		}
	}
}

func TestWhatIsPrintedMakesTheTextOfAllShortTexts(t *testing.T) {
	samples.Texts("=-+", 8, func(signs string) {
		_, b := samples.Pair(signs)
		checkSigns(t, signs, b)
	})
	for _, c := range printCases() {
		_, b := samples.Pair(c.signs)
		checkSigns(t, c.signs, b)
	}
}

// Lines that are dots, or look like other parts of the form.
func TestWhatIsPrintedMakesTheTextOfOddLines(t *testing.T) {
	odd := []string{".\n", "..\n", "\n", "x\n"}
	samples.Texts("=-+", 5, func(signs string) {
		_, b := samples.Pair(signs)
		samples.Lists(odd, len(b), func(l []string) {
			if len(l) == len(b) {
				checkSigns(t, signs, l)
			}
		})
	})
	more := []string{"1d\n", "a\n", "0a\n", "s/.//\n", endLine, "...\n", ".x\n", " .\n", ".\r\n", "\r\n", "\x00\n", "\xff\xfe\n", ".\n", "\n"}
	for _, x := range more {
		for _, y := range more {
			for _, signs := range []string{"++", "--++", "=+", "+=", "-+=", "+-=", "=-+", "=-=", "==-"} {
				checkSigns(t, signs, []string{x, y})
			}
		}
	}
	for c := range 256 {
		if line := string([]byte{byte(c)}); c != '\n' {
			checkSigns(t, "-+", []string{line + "\n"})
			checkSigns(t, "+=", []string{"." + line + "\n", line + "\n"})
		}
	}
}

// checkEngines says it of the scripts that all engines find.
func checkEngines(t *testing.T, a, b []string) {
	t.Helper()
	samples.Engines(a, b, api.Ignore{}, func(l []api.Change) { checkThereAndBack(t, l, a, b) })
}

// dotted is a line for each class, the first of them dots.
func dotted(x []int) []string {
	l := samples.Text(x)
	for i, class := range x {
		if class < 4 {
			l[i] = strings.Repeat(".", (class+1)%4) + "\n"
		}
	}
	return l
}

func TestWhatIsPrintedMakesTheTextOfAllEngines(t *testing.T) {
	samples.Both(2, 4, func(x, y []int) {
		a, b := dotted(x), dotted(y)
		checkEngines(t, a, b)
		for _, ends := range [][2][]string{{a, samples.Unfed(b)}, {samples.Unfed(a), b}, {samples.Unfed(a), samples.Unfed(b)}} {
			if lines.Check(ends[0]) == api.OK && lines.Check(ends[1]) == api.OK {
				checkEngines(t, ends[0], ends[1])
			}
		}
	})
	samples.Mixed(40, 60, func(x, y []int) {
		checkEngines(t, dotted(x), append(dotted(y), "end"))
		checkEngines(t, append(dotted(x), "end"), samples.Text(y))
		checkEngines(t, append(dotted(x), "end"), append(dotted(y), "end"))
	})
	samples.Mixed(4, 900, func(x, y []int) { checkEngines(t, dotted(x), dotted(y)) })
	for _, c := range samples.Plain() {
		checkEngines(t, samples.Text(c.X), samples.Text(c.Y))
	}
}

// Up to the limit nothing is refused, above it Run alone does.
func TestWhatIsPrintedMakesTheTextUpToTheLimit(t *testing.T) {
	line := strings.Repeat("x", api.MaxText-len("0a\n\n.\n"))
	checkThereAndBack(t, samples.Script("+"), nil, []string{line + "\n"})
	text, err := edfmt.Print(samples.Script("+"), nil, []string{line + "x\n"})
	if err != api.OK {
		t.Fatalf("not printed: %d", err)
	}
	checkFault(t, text, nil, 0, api.ErrLong)
	checkSigns(t, strings.Repeat("-+=", api.MaxLines/2), samples.Named("b", api.MaxLines))
	checkSigns(t, strings.Repeat("+=-=", api.MaxLines), slices.Repeat([]string{".\n", "x\n", "\n"}, api.MaxLines))
}

// Rule R4.

func TestWhatIsHandedInIsLeftAlone(t *testing.T) {
	behind := api.Change{A: 9}
	for _, signs := range []string{"", "===", "-", "+", "=-+=", "-=+==-=+", "=-+=====-+==", "==--++===+====-"} {
		script := samples.Script(signs)
		wantA, wantB := samples.Pair(signs)
		l, a, b := samples.Spare(script, behind), samples.Spare(wantA, "behind"), samples.Spare(wantB, "behind")
		text, _ := edfmt.Print(l, a, b)
		edfmt.Print(l, a, b[:0])
		edfmt.Print(l, a[:0], b)
		for _, commands := range []string{text, "", endLine, text + "x\n", text + endLine, "0a\nx\n.\ns/.//\n", "1d\n", "1c\n..\n.\ns/.//\n"} {
			edfmt.Run(commands, a)
		}
		if !samples.Left(l, script, behind) || !samples.Left(a, wantA, "behind") || !samples.Left(b, wantB, "behind") {
			t.Errorf("%s: what was handed in has become %s, %s and %s", signs, told(l), told(a), told(b))
		}
	}
}

func TestWhatIsAnsweredIsNewMemory(t *testing.T) {
	fill := func(i int) string { return "filled " + string(rune('a'+i)) }
	for _, text := range []string{"", endLine, "1d\n", "0a\nx\n.\n", "3a\nx\n.\ns/.//\n", "1,3c\nx\n.\n" + endLine} {
		for _, n := range []int{3, 600, 2000} {
			a := samples.Named("a", n)
			made, err := edfmt.Run(text, a)
			again, _ := edfmt.Run(text, a)
			if err != nil || !slices.Equal(made, again) {
				t.Fatalf("%s: %s, %v, and then %s", told(text), told(made), err, told(again))
			}
			if !samples.Apart(fill, a, made, again) {
				t.Errorf("%s: lists share memory", told(text))
			}
		}
	}
}

// Each fault is one of its own: who changes it does not change what is told later.
func TestFaultsAreNewMemory(t *testing.T) {
	for _, text := range []string{"x\n", "9d\n", "a\n", "s/.//\n", "1a\n", endLine + endLine, "1d", strings.Repeat("x", api.MaxText+1)} {
		fault := func() error {
			_, err := edfmt.Run(text, three())
			return err
		}
		if !samples.OwnFaults(fault) {
			t.Errorf("%s: faults share memory, or there are none", told(text))
		}
	}
}

// What was told of another text says nothing of the next one; nor is a current line kept.
func TestNothingLastsFromCallToCall(t *testing.T) {
	for range 3 {
		checkRun(t, "1a\nx\n.\n", three()[:1], []string{"1\n", "x\n"})
		checkFault(t, "s/.//\n", three()[:1], 1, api.ErrDot)
		checkFault(t, "1a\nx\n", three(), 3, api.ErrShort)
		checkRun(t, endLine, three()[:1], []string{"1"})
		checkRun(t, "", three(), three())
	}
}

// Searches for what breaks a promise.

func FuzzRun(f *testing.F) {
	for _, text := range []string{
		"", aText, "1d\n", "3d\n", "s/.//\n", "1a\nx\n", "2,3c\n..\n.\ns/.//\n", "0a\nx\n.\n" + endLine, endLine + "1d\n", "1,99999999999999999999d\n", "1,2d", "0a\n.\na\n",
	} {
		f.Add(text, "1\n2\n3\n")
		f.Add(text, "")
		f.Add(text, ".\n\n\xff")
	}
	f.Fuzz(func(t *testing.T, text, old string) {
		checkByWords(t, text, lines.Split(old))
		checkByWords(t, text+"\n", strings.Split(old, "x"))
	})
}

func FuzzPrint(f *testing.F) {
	f.Add("", "")
	f.Add("\x03\x04", "b")
	f.Add("\x00\x03\x04\x00\x00\x03\x00\x00\x00\x04\x03", ".\n..\n\n.\n.\nx\n1d\n.\n.")
	f.Fuzz(func(t *testing.T, s, made string) {
		signs := samples.Signs(s)
		_, b := samples.Pair(signs)
		b = samples.Right(made, len(b))
		a := samples.Before(signs, b)
		l := samples.Script(signs)
		checkPrint(t, l, a, b, printByWords(l, b), api.OK)
		if len(printByWords(l, b)) <= api.MaxText {
			checkSigns(t, signs, b)
		}
		checkPrint(t, l, append(a, "x"), b, "", api.ErrScript)
	})
}

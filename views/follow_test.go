package views_test

import (
	"math"
	"slices"
	"strings"
	"testing"

	"redline/api"
	"redline/edits"
	"redline/engine"
	"redline/lines"
	"redline/samples"
	"redline/views"
)

// Promise 17.4.

// fed is lines as a text, in which each one has its line feed.
func fed(l []string) string {
	var s strings.Builder
	for _, line := range l {
		s.WriteString(strings.TrimSuffix(line, "\n") + "\n")
	}
	return s.String()
}

// checkThereAndBack says what follows of right lines, none of them a command, and a script between them that keeps only lines that are the same: both texts come out of the one that is made of them, and of the one that goes back.
func checkThereAndBack(t *testing.T, l []api.Change, a, b []string, name string) {
	t.Helper()
	if strings.Trim(signsOf(slices.Concat(a, b), name), "t") != "" || lines.Check(a) != api.OK || lines.Check(b) != api.OK {
		t.Fatalf("%s or %s have commands, or are no right lines", told(a), told(b))
	}
	text, err := views.Ifdef(l, a, b, name)
	back, errBack := views.Ifdef(edits.Invert(l), b, a, name)
	if err != api.OK || errBack != api.OK {
		t.Fatalf("%s of %s and %s: %d, back %d", told(l), told(a), told(b), err, errBack)
	}
	checkResolve(t, text, name, fed(b), fed(a))
	checkResolve(t, back, name, fed(a), fed(b))
}

// checkSigns says it of what signs make b out of, where these are right lines, with and without the last line feeds.
func checkSigns(t *testing.T, signs string, b []string, name string) {
	t.Helper()
	for _, b := range [][]string{b, samples.Unfed(b)} {
		a := samples.Before(signs, b)
		if lines.Check(a) != api.OK || lines.Check(b) != api.OK {
			continue
		}
		checkThereAndBack(t, samples.Script(signs), a, b, name)
		if strings.HasSuffix(signs, "-") {
			checkThereAndBack(t, samples.Script(signs), samples.Unfed(a), b, name)
		}
	}
}

func TestBothTextsComeOutOfOneOfAllShortTexts(t *testing.T) {
	samples.Texts("=-+", 8, func(signs string) {
		_, b := samples.Pair(signs)
		checkSigns(t, signs, b, "N")
	})
	for _, c := range ifdefCases() {
		_, b := samples.Pair(c.signs)
		for _, name := range rightNames() {
			checkSigns(t, c.signs, b, name)
		}
	}
}

// Lines that are empty, that look like commands, and commands for another name.
func TestBothTextsComeOutOfOneOfOddLines(t *testing.T) {
	odd := append(commandsOf("M"), "\n", " \n", "#ifdef N \n", "#endif /*N*/\n", "#else\n", "\r\n", "\x00\n", "\xff\xfe\n")
	for _, x := range odd {
		for _, y := range odd {
			for _, signs := range []string{"++", "--++", "=+", "+=", "-+=", "+-=", "=-+", "-==", "=-=", "==-", "-=+=-+"} {
				b := []string{x, y, x, y}[:len(signs)-strings.Count(signs, "-")]
				checkSigns(t, signs, b, "N")
			}
		}
	}
	for _, line := range nearly() {
		checkSigns(t, "-+=-=+", []string{line + "\n", "a\n", line + "\n", line + "\n"}, "N")
	}
}

func TestBothTextsComeOutOfOneOfAllEngines(t *testing.T) {
	samples.TextPairs(func(a, b []string, o api.Ignore) {
		if o == (api.Ignore{}) { // else they need not
			samples.Engines(a, b, o, func(l []api.Change) { checkThereAndBack(t, l, a, b, "NAME_1") })
		}
	})
}

// With differences that are ignored the line of a is told where one is kept, and that of b is not.
func TestKeptLinesAreThoseOfTheOldText(t *testing.T) {
	for _, c := range samples.Alikes() {
		a, b := []string{fed([]string{c.A}), "x\n"}, []string{fed([]string{c.B}), "y\n"}
		l, err := engine.Diff(api.Minimal, a, b, c.Ignored)
		if err != api.OK || len(l) != 1 {
			t.Fatalf("%s and %s: %s, %d", told(a), told(b), told(l), err)
		}
		text, err := views.Ifdef(l, a, b, "N")
		if err != api.OK {
			t.Fatalf("%s and %s: %d", told(a), told(b), err)
		}
		checkResolve(t, text, "N", fed([]string{a[0], b[1]}), fed(a))
		checkSide(t, l, a, b, 9, rowByWords(a[0], ' ', b[0], 9)+rowByWords(a[1], '|', b[1], 9), api.OK)
	}
}

func TestBothTextsComeOutOfLongOnes(t *testing.T) {
	checkSigns(t, strings.Repeat("-+=", api.MaxLines/2), samples.Named("b", api.MaxLines), "N")
	checkSigns(t, strings.Repeat("+=-=", 4*api.MaxLines), samples.Named("b", 12*api.MaxLines), "N")
	long := strings.Repeat("x", 2*api.MaxText) + "\n"
	checkThereAndBack(t, samples.Script("-+=+"), []string{"a\n", long}, []string{"b\n", long, long}, "N")
}

// Rules R1 and R4.

// No call panics, whatever it is given: it refuses.
func TestExtremeArgumentsAreRefused(t *testing.T) {
	far := []int{math.MinInt, math.MinInt + 1, math.MinInt32, -1, 0, 1, math.MaxInt32, math.MaxInt - 1, math.MaxInt}
	a, b := samples.Pair("-+=")
	for _, x := range far {
		for _, y := range far {
			for _, l := range [][]api.Change{rows{{x, y, x, y}}.Changes(), rows{{x, y, y, x}}.Changes(), rows{{0, 1, 0, 1}, {x, y, x, y}}.Changes(), rows{{x, y, 0, 1}}.Changes(), rows{{0, 1, x, y}}.Changes()} {
				want := edits.Check(l, len(a), len(b))
				if _, err := views.Side(l, a, b, 3); err != want {
					t.Errorf("%s: %d, want %d", told(l), err, want)
				}
				if _, err := views.Ifdef(l, a, b, "N"); err != want {
					t.Errorf("%s: %d, want %d", told(l), err, want)
				}
				checkSide(t, l, nil, nil, y, "", api.ErrScript)
				checkIfdef(t, l, nil, nil, "", "", api.ErrScript)
			}
		}
	}
}

func TestWhatIsHandedInIsLeftAlone(t *testing.T) {
	behind := api.Change{A: 9}
	for _, signs := range []string{"", "===", "-", "+", "=-+=", "-=+==-=+", "=-+=====-+==", "==--++===+====-"} {
		script := samples.Script(signs)
		wantA, wantB := samples.Pair(signs)
		l, a, b := samples.Spare(script, behind), samples.Spare(wantA, "behind"), samples.Spare(wantB, "behind")
		for _, width := range []int{0, 1, 9, 201} {
			views.Side(l, a, b, width)
			views.Side(l, a, b[:0], width)
		}
		for _, name := range []string{"N", "", "0"} {
			views.Ifdef(l, a, b, name)
			views.Ifdef(l, a[:0], b, name)
		}
		if !samples.Left(l, script, behind) || !samples.Left(a, wantA, "behind") || !samples.Left(b, wantB, "behind") {
			t.Errorf("%s: what was handed in has become %s, %s and %s", signs, told(l), told(a), told(b))
		}
	}
}

// Who changes the lists afterwards does not change the answer.
func TestWhatIsAnsweredHangsOnNothingThatWasHandedIn(t *testing.T) {
	const signs = "=-+=--=+"
	l := samples.Script(signs)
	a, b := samples.Pair(signs)
	side, one := sideByWords(signs, a, b, 9), ifdefByWords(signs, a, b, "N")
	gotSide, _ := views.Side(l, a, b, 9)
	gotOne, _ := views.Ifdef(l, a, b, "N")
	clear(l)
	clear(a)
	clear(b)
	if gotSide != side || gotOne != one {
		t.Errorf("%s, %s, want %s, %s", told(gotSide), told(gotOne), told(side), told(one))
	}
}

// Each fault is one of its own: who changes it does not change what is told later.
func TestFaultsAreNewMemory(t *testing.T) {
	for _, c := range []struct{ text, name string }{{"", ""}, {"a\n", "1"}, {"#ifdef N\n", "N"}, {"a\n#else /* N */\n", "N"}, {"#ifdef N\n#ifdef N\n", "N"}, {"#ifndef N\n#endif /* N */\n", "N"}} {
		for _, defined := range []bool{true, false} {
			fault := func() error {
				_, err := views.Resolve(c.text, c.name, defined)
				return err
			}
			if !samples.OwnFaults(fault) {
				t.Errorf("%s: faults share memory, or there are none", told(c))
			}
		}
	}
}

// What was told of another text says nothing of the next one.
func TestNothingLastsFromCallToCall(t *testing.T) {
	for range 3 {
		checkFault(t, "#ifndef N\na\n", "N", 3, api.ErrShort)
		checkResolve(t, "a\n#endif /* M */\n", "N", "a\n#endif /* M */\n", "a\n#endif /* M */\n")
		checkFault(t, "#ifdef N\n#else /* N */\n", "N", 2, api.ErrOrder)
		checkResolve(t, "#ifdef N\na\n#endif /* N */\n", "N", "a\n", "")
		checkResolve(t, "#ifdef N\na\n#endif /* N */\n", "M", "#ifdef N\na\n#endif /* N */\n", "#ifdef N\na\n#endif /* N */\n")
		checkFault(t, "", "", 0, api.ErrName)
		checkSide(t, nil, []string{"a"}, []string{"b"}, 0, "", api.ErrRange)
		checkSide(t, nil, []string{"a"}, []string{"b"}, 1, "a   b\n", api.OK)
		checkIfdef(t, nil, []string{"a"}, []string{"b"}, "", "", api.ErrName)
		checkIfdef(t, nil, []string{"a"}, []string{"b"}, "N", "a\n", api.OK)
	}
}

// Searches for what breaks a promise.

func FuzzSide(f *testing.F) {
	f.Add("", "", "", 3)
	f.Add("\x03\x04", "a", "b\tc", 1)
	f.Add("\x00\x03\x04\x00\x00\x03\x00\x00\x00\x04\x03", "a\tb\n \n\n", "\t\n  x\n\xff\ny", 10)
	f.Fuzz(func(t *testing.T, s, old, made string, width int) {
		signs := samples.Signs(s[:min(len(s), 2000)])
		a, b := samples.Pair(signs)
		a, b = samples.Right(old, len(a)), samples.Right(made, len(b))
		l := samples.Script(signs)
		width %= 300
		if width < 1 || width > 200 {
			checkSide(t, l, a, b, width, "", api.ErrRange)
		} else {
			checkSide(t, l, a, b, width, sideByWords(signs, a, b, width), api.OK)
		}
		checkSide(t, l, append(a, "x"), b, width, "", api.ErrScript)
	})
}

func FuzzIfdef(f *testing.F) {
	f.Add("", "", "N")
	f.Add("\x03\x04", "b", "")
	f.Add("\x00\x03\x04\x00\x00\x03\x00\x00\x00\x04\x03", "#ifdef M\n\n#else\nend", "_1a")
	f.Fuzz(func(t *testing.T, s, made, name string) {
		signs := samples.Signs(s[:min(len(s), 2000)])
		_, b := samples.Pair(signs)
		b = samples.Right(made, len(b))
		a := samples.Before(signs, b)
		l := samples.Script(signs)
		checkIfdef(t, l, append(a, "x"), b, name, "", api.ErrScript)
		if !nameByWords(name) {
			checkIfdef(t, l, a, b, name, "", api.ErrName)
			return
		}
		checkIfdef(t, l, a, b, name, ifdefByWords(signs, a, b, name), api.OK)
		if strings.Trim(signsOf(slices.Concat(a, b), name), "t") == "" {
			checkSigns(t, signs, b, name)
		}
	})
}

func FuzzResolve(f *testing.F) {
	for _, text := range []string{"", aText, "#ifdef N\n", "#endif /* N */", "#ifndef N\n#else /* N */\n#endif /* ! N */\n"} {
		f.Add(text, "N")
		f.Add(text, "M")
		f.Add(text, "1")
	}
	f.Fuzz(func(t *testing.T, text, name string) {
		checkByWords(t, text, name)
		for _, ahead := range commandsOf(name) {
			checkByWords(t, ahead+text, name)
			checkByWords(t, text+"\n"+ahead, name)
		}
	})
}

package ctxfmt_test

import (
	"slices"
	"strings"
	"testing"

	"redline/api"
	"redline/samples"
)

// Promise 15.2, of texts that are long, and of all that are short.

func TestParseOfTextsOfAllBytesThatMayBe(t *testing.T) {
	frame := names + hunkText("1", "- \n", "0", "")
	line := strings.Repeat("x", api.MaxText-len(frame))
	text := names + hunkText("1", "- "+line+"\n", "0", "")
	checkParse(t, text, one([4]int{1, 1, 0, 0}, "-"+line+"\n"))
	checkFault(t, text[:len(text)-1], 6, api.ErrText)
	for _, more := range []string{"\n", "x", "\x00", text} {
		checkFault(t, text+more, 0, api.ErrLong)
		checkFault(t, more+text, 0, api.ErrLong)
	}
	checkFault(t, names+hunkText("1", "- x"+line+"\n", "0", ""), 0, api.ErrLong)
	for _, wrong := range []string{"\n", "x", "\x00", "*", "*** a\n", names, starLine, names + goes, "  x\n"} {
		most := strings.Repeat(wrong, api.MaxText)[:api.MaxText]
		checkByWords(t, most)
		checkFault(t, most+"\n", 0, api.ErrLong)
		checkFault(t, most+most, 0, api.ErrLong)
	}
}

func TestParseOfAsManyHunksAsMayBe(t *testing.T) {
	most := strings.Repeat(goes, api.MaxHunks)
	at := 2 + 4*api.MaxHunks // lines of names and most
	all := patchOf(manyHunks(gone(), api.MaxHunks)...)
	checkParse(t, names+most, []api.Patch{all})
	checkParse(t, names+most+names+most, []api.Patch{all, all})
	checkParse(t, names+most+names+goes, []api.Patch{all, patchOf(gone())})
	checkFault(t, names+most+goes, at+1, api.ErrLong)
	checkFault(t, names+most+starLine, at+1, api.ErrLong)
	checkFault(t, names+most+"*************** x\n", at+1, api.ErrLong)
	checkFault(t, names+most+hunkText("x", "", "x", ""), at+1, api.ErrLong)
	checkFault(t, names+goes+names+most+goes, 6+at+1, api.ErrLong)
	checkFault(t, names+most+strings.TrimSuffix(starLine, "\n"), at+1, api.ErrText)
	checkFault(t, names+most+"*"+starLine, at+1, api.ErrText)
	checkFault(t, names+most+"***************x\n", at+1, api.ErrText)
	last := strings.TrimSuffix(most, goes)
	checkFault(t, names+last+hunkText("0", "- x\n", "0", "")+goes, at-2, api.ErrRange)
	checkFault(t, names+last+hunkText("2,3", "- x\n", "0", "")+starLine, at-2, api.ErrCount)
}

func TestParseOfAsManyPatchesAsMayBe(t *testing.T) {
	most := strings.Repeat(names+goes, api.MaxFiles)
	at := 6 * api.MaxFiles
	all := slices.Repeat([]api.Patch{patchOf(gone())}, api.MaxFiles)
	checkParse(t, most, all)
	checkFault(t, most+names+goes, at+1, api.ErrLong)
	checkFault(t, most+names, at+1, api.ErrLong)
	checkFault(t, most+"*** a\n", at+1, api.ErrLong)
	checkFault(t, most+"*** a\nx\n", at+1, api.ErrLong)
	checkFault(t, most+"*** a\n--- b c\n", at+1, api.ErrLong)
	checkFault(t, most+"*** a", at+1, api.ErrText)
	checkFault(t, most+"*** a b\n", at+1, api.ErrName)
	checkFault(t, most+"*** 1 ****\n", at+1, api.ErrName)
	checkFault(t, most+"--- a\n", at+1, api.ErrText)
	checkFault(t, most+"x\n", at+1, api.ErrText)
	last := strings.TrimSuffix(most, names+goes)
	checkFault(t, last+names+hunkText("0", "- x\n", "0", "")+names+goes, at-2, api.ErrRange)
	checkParse(t, most+goes, append(all[1:], patchOf(gone(), gone())))
}

// There may be more lines than may be compared.
func TestParseOfHunksOfVeryManyLines(t *testing.T) {
	for _, c := range []struct {
		marks     []api.Mark
		old, made string
	}{
		{samples.Marks("-x\n"), "- x\n", ""},
		{samples.Marks("+x\n"), "", "+ x\n"},
		{samples.Marks(" x\n", "-y\n"), "  x\n- y\n", ""},
		{samples.Marks("+x\n", " y\n"), "", "+ x\n  y\n"},
		{samples.Marks("-x\n", "+y\n", " z\n"), "! x\n  z\n", "! y\n  z\n"},
		{samples.Marks("+x\n", " y\n", "-z\n", " y\n"), "  y\n- z\n  y\n", "+ x\n  y\n  y\n"},
	} {
		n := (api.MaxText - 200) / (len(c.old) + len(c.made))
		h := api.Hunk{A: 1, B: 1, Lines: slices.Repeat(c.marks, n)}
		for _, m := range h.Lines {
			if m.Sign != api.Added {
				h.AN++
			}
			if m.Sign != api.Removed {
				h.BN++
			}
		}
		old, made := strings.Repeat(c.old, n), strings.Repeat(c.made, n)
		checkParse(t, names+hunkText(rangeByWords(1, h.AN), old, rangeByWords(1, h.BN), made), []api.Patch{patchOf(h)})
		checkByWords(t, names+hunkText(rangeByWords(1, h.AN+1), old, rangeByWords(1, h.BN), made))
		checkByWords(t, names+hunkText(rangeByWords(1, h.AN), old, rangeByWords(1, h.BN), made+"  x\n"))
	}
	n := (api.MaxText - 200) / 8
	old, made := strings.Repeat("! x\n", n), strings.Repeat("! y\n", n)
	lines := rangeByWords(1, n)
	checkParse(t, names+hunkText(lines, old, lines, made), []api.Patch{patchOf(api.Hunk{A: 1, AN: n, B: 1, BN: n, Lines: slices.Concat(slices.Repeat(samples.Marks("-x\n"), n), slices.Repeat(samples.Marks("+y\n"), n))})})
	checkFault(t, names+hunkText(lines, old, lines, made[4:]+"+ y\n"), 3, api.ErrMatch)
	checkFault(t, names+hunkText(lines, old, rangeByWords(1, n+1), made), 5+n, api.ErrCount)
}

// Both sides of all short rows of lines, with all ranges of a few lines.
func TestParseOfAllShortSides(t *testing.T) {
	ranges := []string{"0", "1", "1,2", "1,3"}
	right := 0
	samples.Lists([]string{"  a\n", "  b\n", "- a\n", "! a\n"}, 3, func(old []string) {
		samples.Lists([]string{"  a\n", "  b\n", "+ a\n", "! a\n"}, 3, func(made []string) {
			for _, x := range ranges {
				for _, y := range ranges {
					if checkByWords(t, names+hunkText(x, strings.Join(old, ""), y, strings.Join(made, ""))) {
						right++
					}
				}
			}
		})
	})
	if right < 100 {
		t.Errorf("only %d of them are right", right)
	}
}

// Both sides of longer rows, with the ranges that they have, with and without marks.
func TestParseOfAllSidesWithTheirRanges(t *testing.T) {
	right := 0
	samples.Texts(" -!", 5, func(old string) {
		samples.Texts(" +!", 5, func(made string) {
			if len(old)+len(made) > 8 {
				return
			}
			x, y := sideOf(old, made), sideOf(made, old)
			for _, ends := range [][2]string{{"", ""}, {noFeed, ""}, {"", noFeed}, {noFeed, noFeed}} {
				if checkByWords(t, names+hunkText(x.span, x.lines+ends[0], y.span, y.lines+ends[1])) {
					right++
				}
			}
		})
	})
	if right < 500 {
		t.Errorf("only %d of them are right", right)
	}
}

// sideText is a side of a hunk as it stands in a patch.
type sideText struct{ span, lines string }

// sideOf is the side that has such signs, and the range that it must have beside another one.
func sideOf(signs, other string) sideText {
	n := len(signs)
	if n == 0 {
		n = strings.Count(other, " ")
	}
	var s strings.Builder
	for _, sign := range []byte(signs) {
		s.WriteString(string(rune(sign)) + " x\n")
	}
	return sideText{rangeByWords(1, n), s.String()}
}

// Rows of lines of all the kinds that there are, the last one with and without its line feed.
func TestParseOfAllShortRowsOfLines(t *testing.T) {
	kinds := []string{names, "*** a\n", "--- b\n", starLine, "*** 1 ****\n", "--- 1 ----\n", "  x\n", "- x\n", "+ x\n", "! x\n", noFeed, goes}
	right := 0
	samples.Lists(kinds, 5, func(l []string) {
		text := strings.Join(l, "")
		for _, ahead := range []string{"", names + starLine, names + starLine + "*** 1 ****\n- x\n", names + starLine + "*** 1,2 ****\n"} {
			if checkByWords(t, ahead+text) {
				right++
			}
		}
		checkByWords(t, names+starLine+"*** 1 ****\n"+strings.TrimSuffix(text, "\n"))
	})
	if right < 50 {
		t.Errorf("only %d of them are right", right)
	}
}

func TestParseOfAllShortTexts(t *testing.T) {
	samples.Texts("*- \na", 7, func(s string) { checkByWords(t, s) })
	samples.Texts(" !-+1\n", 5, func(s string) {
		checkByWords(t, names+starLine+"*** 1 ****\n"+s)
		checkByWords(t, names+starLine+"*** 1 ****\n- x\n--- 1 ----\n"+s)
	})
	samples.Texts("012, *", 5, func(s string) {
		checkByWords(t, names+hunkText(s, "- x\n- y\n", "0", ""))
		checkByWords(t, names+hunkText("0", "", s, "+ x\n+ y\n"))
	})
}

// aText has all that a text of patches may have.
const aText = names + starLine + "*** 1,7 ****\n- a\n  1\n! b\n! c\n  2\n  3\n! f\n" + noFeed + "--- 1,6 ----\n  1\n! d\n  2\n+ e\n  3\n! g\n" +
	"*************** f()\n*** 12,13 ****\n--- 11,13 ----\n  \n+ h\n  \xff\n" + noFeed +
	"*** \"a b\\22\"\n--- /dev/null\n" + starLine + "*** 1 ****\n- x\n--- 0 ----\n"

func TestParseOfTextsThatEndBehindEachByte(t *testing.T) {
	if l, _, code := parseByWords(aText); code != api.OK || len(l) != 2 {
		t.Fatalf("the text is wrong: %s, %d", told(l), code)
	}
	for i := range len(aText) + 1 {
		for _, text := range []string{aText[:i], aText[:i] + "\n", aText[i:], aText[i:] + "\n", names + goes + aText[i:]} {
			checkByWords(t, text)
		}
	}
}

// Another byte at each place, a byte more, a byte less, two lines exchanged, one left out or twice there.
func TestParseOfTextsThatAreNearlyRight(t *testing.T) {
	samples.Nearly(aText, func(text string) { checkByWords(t, text) })
}

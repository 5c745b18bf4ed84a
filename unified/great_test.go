package unified_test

import (
	"slices"
	"strings"
	"testing"

	"redline/api"
	"redline/samples"
)

// Promise 16.3, of texts that are long, and of all that are short.

func TestParseOfTextsOfAllBytesThatMayBe(t *testing.T) {
	frame := names + hunkText("1", "0,0", "-\n")
	line := strings.Repeat("x", api.MaxText-len(frame))
	text := names + hunkText("1", "0,0", "-"+line+"\n")
	checkParse(t, text, one([4]int{1, 1, 0, 0}, "-"+line+"\n"))
	checkFault(t, text[:len(text)-1], 4, api.ErrText)
	for _, more := range []string{"\n", "x", "\x00", text} {
		checkFault(t, text+more, 0, api.ErrLong)
		checkFault(t, more+text, 0, api.ErrLong)
	}
	checkFault(t, names+hunkText("1", "0,0", "-x"+line+"\n"), 0, api.ErrLong)
	for _, wrong := range []string{"\n", "x", "\x00", "-", "--- a\n", names, "@@ -1 +1 @@\n", names + goes, " x\n"} {
		most := strings.Repeat(wrong, api.MaxText)[:api.MaxText]
		checkByWords(t, most)
		checkFault(t, most+"\n", 0, api.ErrLong)
		checkFault(t, most+most, 0, api.ErrLong)
	}
}

func TestParseOfAsManyHunksAsMayBe(t *testing.T) {
	most := strings.Repeat(goes, api.MaxHunks)
	at := 2 + 2*api.MaxHunks // lines of names and most
	all := patchOf(manyHunks(gone(), api.MaxHunks)...)
	checkParse(t, names+most, []api.Patch{all})
	checkParse(t, names+most+names+most, []api.Patch{all, all})
	checkParse(t, names+most+names+goes, []api.Patch{all, patchOf(gone())})
	checkFault(t, names+most+goes, at+1, api.ErrLong)
	checkFault(t, names+most+goes+goes, at+1, api.ErrLong)
	checkFault(t, names+most+"@@ -1 +1 @@\n", at+1, api.ErrLong)
	checkFault(t, names+most+"@@ -0 +0 @@\n", at+1, api.ErrLong)
	checkFault(t, names+most+"@@ -0,0 +0,0 @@ x\n", at+1, api.ErrLong)
	checkFault(t, names+most+"@@ -1 +1 @@", at+1, api.ErrText)
	checkFault(t, names+most+"@@ -1 +1 @@x\n", at+1, api.ErrText)
	checkFault(t, names+most+"@@ -1 +x @@\n", at+1, api.ErrText)
	checkFault(t, names+most+"x\n", at+1, api.ErrText)
	checkFault(t, names+goes+names+most+goes, 4+at+1, api.ErrLong)
	last := strings.TrimSuffix(most, goes)
	checkFault(t, names+last+hunkText("0", "1", "-x\n")+goes, at-1, api.ErrRange)
	checkFault(t, names+last+hunkText("1", "1", " x\n")+goes, at-1, api.ErrScript)
	checkFault(t, names+last+hunkText("1", "1", "x\n")+goes, at, api.ErrText)
}

func TestParseOfAsManyPatchesAsMayBe(t *testing.T) {
	most := strings.Repeat(names+goes, api.MaxFiles)
	at := 4 * api.MaxFiles
	all := slices.Repeat([]api.Patch{patchOf(gone())}, api.MaxFiles)
	checkParse(t, most, all)
	checkFault(t, most+names+goes, at+1, api.ErrLong)
	checkFault(t, most+names+goes+names+goes, at+1, api.ErrLong)
	checkFault(t, most+names, at+1, api.ErrLong)
	checkFault(t, most+"--- a\n", at+1, api.ErrLong)
	checkFault(t, most+"--- a\nx\n", at+1, api.ErrLong)
	checkFault(t, most+"--- a\n+++ b c\n", at+1, api.ErrLong)
	checkFault(t, most+"--- a", at+1, api.ErrText)
	checkFault(t, most+"--- a b\n", at+1, api.ErrName)
	checkFault(t, most+"--- \n", at+1, api.ErrName)
	checkFault(t, most+"+++ a\n", at+1, api.ErrText)
	checkFault(t, most+"x\n", at+1, api.ErrText)
	last := strings.TrimSuffix(most, names+goes)
	checkFault(t, last+names+hunkText("0", "1", "-x\n")+names+goes, at-1, api.ErrRange)
	checkParse(t, most+goes, append(all[1:], patchOf(gone(), gone())))
}

// All that may be at once: so many patches, with as many hunks together as have room.
func TestParseOfManyPatchesOfManyHunks(t *testing.T) {
	n := (api.MaxText/api.MaxFiles - len(names)) / len(goes)
	p := patchOf(manyHunks(gone(), n)...)
	checkParse(t, strings.Repeat(names+strings.Repeat(goes, n), api.MaxFiles), slices.Repeat([]api.Patch{p}, api.MaxFiles))
}

// There may be more lines than may be compared.
func TestParseOfHunksOfVeryManyLines(t *testing.T) {
	for _, c := range []struct {
		marks []api.Mark
		text  string
	}{
		{samples.Marks("-x\n"), "-x\n"},
		{samples.Marks("+x\n"), "+x\n"},
		{samples.Marks("-\n"), "-\n"},
		{samples.Marks("-x\n", "+y\n"), "-x\n+y\n"},
		{samples.Marks(" x\n", "-y\n"), " x\n-y\n"},
		{samples.Marks("+x\n", " y\n"), "+x\n y\n"},
		{samples.Marks("-x\n", "+y\n", " z\n"), "-x\n+y\n z\n"},
	} {
		n := (api.MaxText - 200) / len(c.text)
		h := api.Hunk{A: 1, B: 1, Lines: slices.Repeat(c.marks, n)}
		for _, m := range h.Lines {
			if m.Sign != api.Added {
				h.AN++
			}
			if m.Sign != api.Removed {
				h.BN++
			}
		}
		text := strings.Repeat(c.text, n)
		checkParse(t, names+hunkText(countByWords(1, h.AN), countByWords(1, h.BN), text), []api.Patch{patchOf(h)})
		checkFault(t, names+hunkText(countByWords(1, h.AN+1), countByWords(1, h.BN), text), 4+len(h.Lines), api.ErrShort)
		checkFault(t, names+hunkText(countByWords(1, h.AN), countByWords(1, h.BN+1), text), 4+len(h.Lines), api.ErrShort)
		checkFault(t, names+hunkText(countByWords(1, h.AN), countByWords(1, h.BN), text, " x\n"), 4+len(h.Lines), api.ErrText)
		checkByWords(t, names+hunkText(countByWords(1, h.AN), countByWords(1, h.BN), text, noFeed))
	}
	n := (api.MaxText - 200) / 3
	lines := countByWords(1, n)
	checkFault(t, names+hunkText(lines, lines, strings.Repeat(" x\n", n)), 3, api.ErrScript)
	checkFault(t, names+hunkText(lines, lines, strings.Repeat(" x\n", n-1)), 3+n, api.ErrShort)
}

// All short rows of lines behind all counts of a few.
func TestParseOfAllShortHunks(t *testing.T) {
	counts := []string{"0,0", "0", "1,0", "1", "1,1", "1,2", "1,3"}
	right := 0
	samples.Lists([]string{" x\n", "-x\n", "+x\n", "+\n", noFeed}, 5, func(l []string) {
		text := strings.Join(l, "")
		for _, x := range counts {
			for _, y := range counts {
				if checkByWords(t, names+hunkText(x, y, text)) {
					right++
				}
			}
		}
	})
	if right < 300 {
		t.Errorf("only %d of them are right", right)
	}
}

// Longer rows with the counts that they have, and the mark behind each of their lines.
func TestParseOfAllHunksWithMarks(t *testing.T) {
	right, wrong := 0, 0
	samples.Texts(" -+", 7, func(signs string) {
		h := samples.SignedHunk(signs)
		head := hunkText(countByWords(h.A, h.AN), countByWords(h.B, h.BN))
		for first := range len(signs) {
			for second := range first + 1 {
				text := names + head
				for i, m := range h.Lines {
					text += string(rune(m.Sign)) + m.Text
					if i == first || i == second {
						text += noFeed
					}
				}
				if checkByWords(t, text) {
					right++
				} else {
					wrong++
				}
			}
		}
	})
	if right < 3000 || wrong < 3000 {
		t.Errorf("%d are right, %d are wrong", right, wrong)
	}
}

// Rows of lines of all the kinds that there are, the last one with and without its line feed.
func TestParseOfAllShortRowsOfLines(t *testing.T) {
	kinds := []string{names, "--- a\n", "+++ b\n", "@@ -1 +1 @@\n", "@@ -1,2 +0,0 @@ f\n", "@@ -0 +1 @@\n", " x\n", "-x\n", "+x\n", noFeed, goes}
	right := 0
	samples.Lists(kinds, 5, func(l []string) {
		text := strings.Join(l, "")
		for _, ahead := range []string{"", names, names + "@@ -1 +1 @@\n", names + "@@ -1,2 +1,2 @@\n-y\n"} {
			if checkByWords(t, ahead+text) {
				right++
			}
		}
		checkByWords(t, names+"@@ -1 +1 @@\n"+strings.TrimSuffix(text, "\n"))
	})
	if right < 50 {
		t.Errorf("only %d of them are right", right)
	}
}

func TestParseOfAllShortTexts(t *testing.T) {
	samples.Texts("-+ \na", 7, func(s string) { checkByWords(t, s) })
	samples.Texts("@ -+1\n", 5, func(s string) {
		checkByWords(t, names+s)
		checkByWords(t, names+"@@ -1 +1 @@\n"+s)
		checkByWords(t, names+goes+s)
	})
	samples.Texts("012, +", 5, func(s string) {
		checkByWords(t, names+hunkText(s, "1", "-x\n", "-y\n", "+z\n"))
		checkByWords(t, names+hunkText("0,0", s, "+x\n", "+y\n"))
		checkByWords(t, names+"@@ -"+s+" @@\n-x\n+y\n")
	})
}

// aText has all that a text of patches may have.
const aText = names + "@@ -1,7 +1,6 @@\n-a\n 1\n-b\n-c\n+d\n 2\n+e\n 3\n-f\n" + noFeed + "+g\n" +
	"@@ -12,2 +11,3 @@ f()\n \n+h\n \xff\n" + noFeed +
	"--- \"a b\\22\"\n+++ /dev/null\n@@ -1,1 +0,0 @@\n-x\n"

func TestParseOfTextsThatEndBehindEachByte(t *testing.T) {
	if l, _, code := parseByWords(aText); code != api.OK || len(l) != 2 {
		t.Fatalf("the text is wrong: %s, %d", told(l), code)
	}
	for i := range len(aText) + 1 {
		for _, text := range []string{aText[:i], aText[:i] + "\n", aText[i:], aText[i:] + "\n", names + goes + aText[i:]} {
			checkByWords(t, text)
		}
	}
}

// Another byte at each place, a byte more, a byte less, two lines exchanged, one left out or twice there.
func TestParseOfTextsThatAreNearlyRight(t *testing.T) {
	samples.Nearly(aText, func(text string) { checkByWords(t, text) })
}

package unified_test

import (
	"slices"
	"strings"
	"testing"

	"redline/api"
	"redline/samples"
)

// Promise 16.3.

// goes is a hunk's text, as short as it may be, and gone the hunk.
const goes = "@@ -1 +0,0 @@\n-x\n"

func gone() api.Hunk { return samples.Hunk([4]int{1, 1, 0, 0}, "-x\n") }

// one is a patch from a to b of one hunk.
func one(numbers [4]int, texts ...string) []api.Patch {
	return []api.Patch{patchOf(samples.Hunk(numbers, texts...))}
}

func TestParseOfTheChaptersExamples(t *testing.T) {
	checkParse(t, "--- a\n+++ b\n@@ -1,2 +1 @@\n 1\n-2\n\\ No newline at end of file\n", one([4]int{1, 2, 1, 1}, " 1\n", "-2"))
	checkFault(t, "--- a\n", 2, api.ErrShort)
	checkFault(t, "--- a\n+++ b\n@@ -0 +1 @@\n", 3, api.ErrRange)
	checkFault(t, "--- a\n+++ b\n@@ -1 +1 @@\n x\n", 3, api.ErrScript)
}

func TestParseOfHunks(t *testing.T) {
	var l []api.Hunk
	var text strings.Builder
	for _, c := range formCases() {
		t.Run(c.name, func(t *testing.T) {
			checkParse(t, names+c.text, []api.Patch{patchOf(c.hunk)})
			checkParse(t, names+goes+c.text+goes, []api.Patch{patchOf(gone(), c.hunk, gone())})
			checkParse(t, names+c.text+names+c.text, []api.Patch{patchOf(c.hunk), patchOf(c.hunk)})
			checkByWords(t, names+c.text)
		})
		l = append(l, c.hunk)
		text.WriteString(c.text)
	}
	checkParse(t, names+text.String(), []api.Patch{patchOf(l...)})
}

func TestParseOfSeveralPatches(t *testing.T) {
	checkParse(t, "", nil)
	checkParse(t, names+goes, []api.Patch{patchOf(gone())})
	checkParse(t, names+goes+"--- c\n+++ /dev/null\n"+goes+goes+"--- \" \"\n+++ d\n"+goes, []api.Patch{
		patchOf(gone()),
		{Old: "c", Hunks: []api.Hunk{gone(), gone()}},
		{Old: " ", New: "d", Hunks: []api.Hunk{gone()}},
	})
	checkParse(t, names+hunkText("0,0", "1", "+x\n", noFeed)+names+goes, []api.Patch{patchOf(samples.Hunk([4]int{0, 0, 1, 1}, "+x")), patchOf(gone())})
	checkParse(t, names+goes+hunkText("1,0", "1", "+y\n")+goes, []api.Patch{patchOf(gone(), samples.Hunk([4]int{1, 0, 1, 1}, "+y\n"), gone())}) // in no order
	checkFault(t, names, 3, api.ErrShort)
	checkFault(t, names+names+goes, 3, api.ErrText)
	checkFault(t, names+goes+names, 7, api.ErrShort)
	checkFault(t, names+goes+names+names+goes, 7, api.ErrText)
	checkFault(t, goes, 1, api.ErrText)
	checkFault(t, "\n"+names+goes, 1, api.ErrText)
	checkFault(t, names+goes+"\n"+names+goes, 5, api.ErrText)
	checkFault(t, names+goes+"diff a b\n"+names+goes, 5, api.ErrText)
	checkFault(t, names+goes+"+++ b\n"+goes, 5, api.ErrText)
}

// How many lines a hunk has says whether a line with --- goes, or begins a patch.
func TestParseOfLinesThatLookLikeNames(t *testing.T) {
	checkParse(t, names+hunkText("1,2", "0,0", "-x\n", "--- a\n"), one([4]int{1, 2, 0, 0}, "-x\n", "--- a\n"))
	checkParse(t, names+hunkText("1,2", "1", "-x\n", "--- a\n", "+++ b\n")+goes, []api.Patch{patchOf(samples.Hunk([4]int{1, 2, 1, 1}, "-x\n", "--- a\n", "+++ b\n"), gone())})
	checkParse(t, names+hunkText("1", "0,0", "-x\n")+"--- a\n+++ b\n"+goes, []api.Patch{patchOf(gone()), patchOf(gone())})
	checkFault(t, names+hunkText("1", "0,0", "-x\n")+"--- a\n", 6, api.ErrShort)
	checkFault(t, names+hunkText("1,3", "0,0", "-x\n")+"--- a\n+++ b\n"+goes, 6, api.ErrText)
}

func TestParseOfNames(t *testing.T) {
	for _, c := range samples.FileNames() {
		checkParse(t, "--- "+c.Text+"\n+++ b\n"+goes, []api.Patch{{Old: c.Name, New: "b", Hunks: []api.Hunk{gone()}}})
		checkParse(t, "--- a\n+++ "+c.Text+"\n"+goes, []api.Patch{{Old: "a", New: c.Name, Hunks: []api.Hunk{gone()}}})
		checkParse(t, names+goes+"--- "+c.Text+"\n+++ "+c.Text+"\n"+goes, []api.Patch{patchOf(gone()), {Old: c.Name, New: c.Name, Hunks: []api.Hunk{gone()}}})
	}
}

func TestParseOfWrongNames(t *testing.T) {
	for _, name := range samples.WrongNames() {
		checkFault(t, "--- "+name+"\n+++ b\n"+goes, 1, api.ErrName)
		checkFault(t, "--- a\n+++ "+name+"\n"+goes, 2, api.ErrName)
		checkFault(t, "--- "+name+"\n", 1, api.ErrName)
		checkFault(t, "--- a\n+++ "+name+"\n", 2, api.ErrName)
		checkFault(t, "--- "+name+"\n+++ "+name+"\n"+goes, 1, api.ErrName)
		checkFault(t, "--- "+name, 1, api.ErrText)
		checkFault(t, "--- a\n+++ "+name, 2, api.ErrText)
		checkFault(t, names+goes+"--- "+name+"\n+++ b\n"+goes, 5, api.ErrName)
		checkFault(t, names+goes+"--- a\n+++ "+name+"\n"+goes, 6, api.ErrName)
	}
}

// Every short text as a name, of bytes of each kind.
func TestParseOfAllShortNames(t *testing.T) {
	right := 0
	samples.Texts("\"\\ a0\xff", 6, func(s string) {
		if checkByWords(t, "--- "+s+"\n+++ b\n"+goes) {
			right++
		}
	})
	if right < 20 {
		t.Errorf("only %d of them are names", right)
	}
}

// What must stand ahead of a name.
func TestParseOfLinesWithoutNames(t *testing.T) {
	for _, line := range []string{"", "-", "--", "---", "---a", "----", "---- a", " --- a", "-- a", "---\ta", "*** a", "@@", "x", "\\ x", "\x00", "+", "++", "+++", "+++a", "++++ a", " +++ a", "++ a", "+++\ta", "- a", " a", "+a", "Index: a"} {
		if line != "" {
			checkFault(t, line, 1, api.ErrText)
			checkFault(t, "--- a\n"+line, 2, api.ErrText)
		}
		checkFault(t, line+"\n+++ b\n"+goes, 1, api.ErrText)
		checkFault(t, names+goes+line+"\n+++ b\n"+goes, 5, api.ErrText)
		checkFault(t, "--- a\n"+line+"\n"+goes, 2, api.ErrText)
		checkFault(t, names+goes+"--- a\n"+line+"\n"+goes, 6, api.ErrText)
	}
	checkFault(t, "+++ a\n--- b\n"+goes, 1, api.ErrText)
	checkFault(t, "--- a\n--- b\n"+goes, 2, api.ErrText)
	checkFault(t, names+goes+"+++ a\n+++ b\n"+goes, 5, api.ErrText)
}

// countCase is a count as it may stand, and what it says.
type countCase struct {
	text      string
	number, n int
}

// rightCounts are counts of few lines.
func rightCounts() []countCase {
	const top = api.MaxNumber
	return []countCase{
		{"0,0", 0, 0}, {"1,0", 1, 0}, {"17,0", 17, 0}, {"2147483647,0", top, 0},
		{"1", 1, 1}, {"1,1", 1, 1}, {"9", 9, 1}, {"10,1", 10, 1}, {"2147483647", top, 1}, {"2147483647,1", top, 1},
		{"1,2", 1, 2}, {"1,3", 1, 3}, {"2,2", 2, 2}, {"10,9", 10, 9}, {"9,10", 9, 10}, {"100,100", 100, 100}, {"2147483647,2", top, 2}, {"2147483646,12", top - 1, 12},
	}
}

func TestParseOfRightCounts(t *testing.T) {
	for _, c := range rightCounts() {
		// A line of the other side makes it a change where this one has none.
		old := api.Hunk{A: c.number, AN: c.n, B: 5, BN: 1, Lines: append(slices.Repeat(samples.Marks("-x\n"), c.n), samples.Marks("+y\n")...)}
		made := api.Hunk{A: 5, AN: 1, B: c.number, BN: c.n, Lines: append(slices.Repeat(samples.Marks("+x\n"), c.n), samples.Marks("-y\n")...)}
		for _, end := range []string{"", " ", "  ", " f()", " @@", " -1 +1 @@", " \x00\xff\r", " " + strings.Repeat("x", 5000)} {
			checkParse(t, names+"@@ -"+c.text+" +5 @@"+end+"\n"+strings.Repeat("-x\n", c.n)+"+y\n", []api.Patch{patchOf(old)})
			checkParse(t, names+goes+"@@ -5 +"+c.text+" @@"+end+"\n"+strings.Repeat("+x\n", c.n)+"-y\n", []api.Patch{patchOf(gone(), made)})
		}
		checkFault(t, names+"@@ -"+c.text+" +5 @@\n"+strings.Repeat("-x\n", c.n+1)+"+y\n", 4+c.n, api.ErrText)
		checkFault(t, names+"@@ -"+c.text+" +5 @@\n"+strings.Repeat("-x\n", c.n)+"+y\n-x\n", 5+c.n, api.ErrText)
		checkFault(t, names+"@@ -5 +"+c.text+" @@\n"+strings.Repeat("+x\n", c.n+1)+"-y\n", 4+c.n, api.ErrText)
		checkFault(t, names+"@@ -5 +"+c.text+" @@\n"+strings.Repeat("+x\n", c.n), 4+c.n, api.ErrShort)
		if c.n > 0 {
			checkFault(t, names+"@@ -"+c.text+" +5 @@\n+y\n"+strings.Repeat("-x\n", c.n-1)+goes, 4+c.n, api.ErrText)
		}
	}
}

// A count says how many lines there are, be it greater than any text.
func TestParseOfGreatCounts(t *testing.T) {
	for _, count := range []string{"1,4096", "1,4097", "1,2147483647", "2147483647,2147483647", "1000000000,1000000000"} {
		checkFault(t, names+hunkText(count, "0,0"), 4, api.ErrShort)
		checkFault(t, names+hunkText(count, "0,0", "-x\n"), 5, api.ErrShort)
		checkFault(t, names+hunkText("0,0", count, "+x\n"), 5, api.ErrShort)
		checkFault(t, names+hunkText(count, count, " x\n", "-x\n", "+y\n"), 7, api.ErrShort)
		checkFault(t, names+hunkText(count, "0,0", "-x\n", noFeed), 5, api.ErrText)
		checkFault(t, names+hunkText(count, "0,0", "-x\n")+goes, 5, api.ErrText)
	}
}

// wrongCounts are texts that are no counts.
func wrongCounts() []string {
	return []string{
		"", " ", ",", "x", "a", "1,", ",1", ",2", ",0", "1,2,", "1,2,3", ",1,2", "1,,2", "1 2", "1-2", "1;2", "1.2", "1, 2", "1 ,2", " 1", "1 ", " 1,2", "1,2 ", "1\t", "1\r", "1\x00", "1,2\x00",
		"00", "01", "001", "00,0", "0,00", "01,2", "1,02", "1,00", "1,01", "-1", "+1", "-0", "+0", "--1", "++1", "1,-2", "1,+2", "0x1", "1e1", "1_0", "1.0", "\u0661", "\uff11", `"1"`,
		"2147483648", "2147483648,0", "2147483648,1", "1,2147483648", "0,2147483648", "4294967296", "4294967297", "4294967297,0", "1,4294967296", "1,4294967297", "9999999999", "1,9999999999",
		"9223372036854775807", "9223372036854775808", "18446744073709551616", "18446744073709551617", "1,18446744073709551616", "1,18446744073709551617", "99999999999999999999", "1,99999999999999999999", "99999999999999999999,1",
		strings.Repeat("9", 400), "1," + strings.Repeat("9", 400), "1" + strings.Repeat("0", 400), strings.Repeat("0", 400) + "1", "@@", "1 +1", "@@ -1", "1,x", "x,1", "1:2",
	}
}

func TestParseOfWrongCounts(t *testing.T) {
	for _, s := range wrongCounts() {
		checkFault(t, names+hunkText(s, "1", "-x\n", "+y\n"), 3, api.ErrText)
		checkFault(t, names+hunkText("1", s, "-x\n", "+y\n"), 3, api.ErrText)
		checkFault(t, names+hunkText(s, s, "-x\n", "+y\n"), 3, api.ErrText)
		checkFault(t, names+hunkText(s, "0,0", "-x\n"), 3, api.ErrText)
		checkFault(t, names+hunkText("0,0", s, "+x\n"), 3, api.ErrText)
		checkFault(t, names+hunkText(s, "0", "-x\n", "+y\n"), 3, api.ErrText)
		checkFault(t, names+hunkText("0", s, "-x\n", "+y\n"), 3, api.ErrText)
		checkFault(t, names+goes+hunkText(s, "1", "-x\n", "+y\n"), 5, api.ErrText)
		checkFault(t, names+"@@ -"+s+" +1 @@ 1\n-x\n+y\n", 3, api.ErrText)
		checkFault(t, names+"@@ -1 +"+s+" @@", 3, api.ErrText)
	}
}

// What must stand around the counts, and what may stand behind them.
func TestParseOfLinesThatBeginNoHunk(t *testing.T) {
	for _, line := range []string{
		"@@ -1 +1 @", "@@ -1 +1", "@@ -1 +1 ", "@@ -1 +1 @ @", "@@ -1 +1@@", "@@ -1 +1  @@", "@@ -1 +1\t@@", "@@ -1 +1 @@@", "@@ -1 +1 @@x", "@@ -1 +1 @@\t", "@@ -1 +1 @@\tx", "@@ -1 +1 @@\r", "@@ -1 +1 @@\x00", "@@ -1 +1 @@-", "@@ -1 +1 @@@@",
		"@@ -1+1 @@", "@@ -1  +1 @@", "@@ -1\t+1 @@", "@@ -1 1 @@", "@@ -1 -1 @@", "@@ +1 -1 @@", "@@ +1 +1 @@", "@@ 1 1 @@", "@@ 1 +1 @@", "@@ -1 + 1 @@", "@@ -1 @@", "@@ +1 @@", "@@ -1 @@ +1 @@", "@@ -1 +1 +1 @@", "@@ -1 -1 +1 @@", "@@ -1,1 1,1 @@",
		"@@-1 +1 @@", "@@  -1 +1 @@", "@@\t-1 +1 @@", "@@ - 1 +1 @@", "@ -1 +1 @@", "@@@ -1 +1 @@", " @@ -1 +1 @@", "-1 +1 @@", "-1 +1", "1 +1 @@", "1,1 +1,1 @@ x", " -1 +1 @@", "## -1 +1 ##", "@@@ -1 -1 +1 @@@", "@@ -1 +1 ##",
		"", "@", "@@", "@@ ", "@@ @@", "@@ -", "@@ - + @@", "@@  @@", "x", "-x", "+x", " x", "- x", "--", "---", "+++ b", "\\", "\x00", "***************", "1c1",
	} {
		checkFault(t, names+line+"\n-x\n+y\n", 3, api.ErrText)
		checkFault(t, names+goes+line+"\n-x\n+y\n", 5, api.ErrText)
		if line != "" {
			checkFault(t, names+line, 3, api.ErrText)
			checkFault(t, names+goes+line, 5, api.ErrText)
		}
	}
	for c := range 256 {
		s := string([]byte{byte(c)})
		checkByWords(t, names+"@@ -1 +1 @@"+s+"\n-x\n+y\n")
		checkByWords(t, names+goes+"@@ -1 +1 @@"+s+"x\n-x\n+y\n")
		checkByWords(t, names+"@@ -1"+s+"+1 @@\n-x\n+y\n")
		checkByWords(t, names+"@@ -1 +1"+s+"@@\n-x\n+y\n")
		checkByWords(t, names+"@@ -1"+s+"2 +1 @@\n-x\n-y\n+y\n")
		checkByWords(t, names+s+"@ -1 +1 @@\n-x\n+y\n")
	}
}

// The number 0 says that nothing stands there: no lines may be counted behind it.
func TestParseOfLinesAtTheNumberZero(t *testing.T) {
	for _, line := range []string{"@@ -0 +1 @@", "@@ -0,1 +1 @@", "@@ -0,2 +1 @@", "@@ -0,2147483647 +1 @@", "@@ -1 +0 @@", "@@ -1 +0,1 @@", "@@ -1 +0,2 @@", "@@ -1 +0,2147483647 @@", "@@ -0 +0 @@", "@@ -0,5 +0,7 @@", "@@ -0,0 +0 @@", "@@ -0 +0,0 @@", "@@ -0 +1 @@ f()"} {
		checkFault(t, names+line+"\n", 3, api.ErrRange)
		checkFault(t, names+line+"\n-x\n+y\n", 3, api.ErrRange)
		checkFault(t, names+line+"\nx\n", 3, api.ErrRange)
		checkFault(t, names+goes+line+"\n-x\n+y\n", 5, api.ErrRange)
		checkFault(t, names+line, 3, api.ErrText)
	}
	checkParse(t, names+"@@ -0,0 +5 @@\n+x\n", one([4]int{0, 0, 5, 1}, "+x\n"))
	checkParse(t, names+"@@ -5 +0,0 @@\n-x\n", one([4]int{5, 1, 0, 0}, "-x\n"))
}

// Lines that are empty but for the sign, and such that lack it.
func TestParseOfSigns(t *testing.T) {
	checkParse(t, names+hunkText("1,3", "1,3", " \n", "-\n", "+\n", " \n"), one([4]int{1, 3, 1, 3}, " \n", "-\n", "+\n", " \n"))
	for _, line := range []string{"", "x", "\t", "\tx", "!", "! x", "*", "=x", "@@ -1 +1 @@", "\\", "\\ x", "\r", "\x00", "\xff", "\u00a0x", "\u2212x", ">x", "<x", "#x", "0"} {
		checkFault(t, names+hunkText("1,3", "1,3", line+"\n", " x\n", "-x\n", "+x\n"), 4, api.ErrText)
		checkFault(t, names+hunkText("1,3", "1,3", " x\n", line+"\n", "-x\n", "+x\n"), 5, api.ErrText)
		checkFault(t, names+hunkText("1,3", "1,3", " x\n", "-x\n", line+"\n", "+x\n"), 6, api.ErrText)
		checkFault(t, names+hunkText("1,3", "1,3", " x\n", "-x\n", "+x\n", line+"\n"), 7, api.ErrText)
	}
	for c := range 256 {
		front := string([]byte{byte(c)})
		checkByWords(t, names+hunkText("1,2", "1,2", "-x\n", "+y\n", front+"y\n"))
		checkByWords(t, names+hunkText("1,2", "1,2", "-x\n", "+y\n", front+"\n"))
		checkByWords(t, names+hunkText("1,2", "1,2", front+" y\n", "-x\n", "+y\n"))
		checkByWords(t, names+hunkText("1,2", "0,0", "-x\n", front+"y\n"))
		checkByWords(t, names+hunkText("0,0", "1,2", "+x\n", front+"y\n"))
		checkByWords(t, names+hunkText("1", "0,0", "-x\n", front+"y\n"))
	}
}

// Fewer lines than the counts say, and more.
func TestParseOfLinesThatAreNotAsManyAsWasSaid(t *testing.T) {
	for _, c := range []struct {
		name string
		text string
		at   int
		code api.Errno
	}{
		{"no lines", hunkText("1", "1"), 4, api.ErrShort},
		{"an old line less", hunkText("1,2", "1", "-x\n", "+y\n"), 6, api.ErrShort},
		{"a new line less", hunkText("1", "1,2", "-x\n", "+y\n"), 6, api.ErrShort},
		{"a kept line less", hunkText("1,2", "1,2", "-x\n", "+y\n"), 6, api.ErrShort},
		{"an old line less, and a hunk behind it", hunkText("1,2", "1", "-x\n", "+y\n") + goes, 6, api.ErrText},
		{"an old line less, and a new name behind it", hunkText("1,2", "1", "-x\n", "+y\n") + "+++ b\n", 6, api.ErrText},
		{"a new line less, and a patch behind it", hunkText("1", "1,2", "-x\n", "+y\n") + names + goes, 6, api.ErrText},
		{"an old line more", hunkText("1", "1", "-x\n", "-z\n", "+y\n"), 5, api.ErrText},
		{"a new line more", hunkText("1", "1", "+x\n", "+z\n", "-y\n"), 5, api.ErrText},
		{"an old line more at the end", hunkText("1", "1", "-x\n", "+y\n", "-z\n"), 6, api.ErrText},
		{"a new line more at the end", hunkText("1", "1", "-x\n", "+y\n", "+z\n"), 6, api.ErrText},
		{"a kept line more at the end", hunkText("1", "1", "-x\n", "+y\n", " z\n"), 6, api.ErrText},
		{"a kept line, where no new one is left", hunkText("1,2", "1", "-x\n", "+y\n", " z\n"), 6, api.ErrText},
		{"a kept line, where no old one is left", hunkText("1", "1,2", "-x\n", "+y\n", " z\n"), 6, api.ErrText},
		{"a new line, where old ones alone are left", hunkText("1,2", "0,0", "-x\n", "+y\n"), 5, api.ErrText},
		{"an old line, where new ones alone are left", hunkText("0,0", "1,2", "+x\n", "-y\n"), 5, api.ErrText},
		{"a line of no counted ones", hunkText("0,0", "0,0", "-x\n"), 3, api.ErrScript},
	} {
		t.Run(c.name, func(t *testing.T) {
			checkFault(t, names+c.text, c.at, c.code)
			checkFault(t, names+goes+c.text, c.at+2, c.code)
			checkByWords(t, names+c.text)
		})
	}
}

func TestParseOfMarks(t *testing.T) {
	for _, c := range []struct {
		name string
		text string
		want []api.Patch
	}{
		{"behind the last old line", hunkText("1,2", "0,0", "-x\n", "-y\n", noFeed), one([4]int{1, 2, 0, 0}, "-x\n", "-y")},
		{"behind the last new line", hunkText("0,0", "1,2", "+x\n", "+y\n", noFeed), one([4]int{0, 0, 1, 2}, "+x\n", "+y")},
		{"behind both", hunkText("1", "1", "-x\n", noFeed, "+y\n", noFeed), one([4]int{1, 1, 1, 1}, "-x", "+y")},
		{"behind both, the new one first", hunkText("1", "1", "+y\n", noFeed, "-x\n", noFeed), one([4]int{1, 1, 1, 1}, "+y", "-x")},
		{"behind a last one that is both", hunkText("1,2", "1", "-x\n", " y\n", noFeed), one([4]int{1, 2, 1, 1}, "-x\n", " y")},
		{"behind the last old line, new ones follow", hunkText("1", "1,3", "-x\n", noFeed, "+x\n", "+\n", "+y\n"), one([4]int{1, 1, 1, 3}, "-x", "+x\n", "+\n", "+y\n")},
		{"behind the last new line, old ones follow", hunkText("1,2", "1", "+y\n", noFeed, "-x\n", "-y\n"), one([4]int{1, 2, 1, 1}, "+y", "-x\n", "-y\n")},
		{"behind the last new line, which is not the last old one's", hunkText("1,2", "1,2", " x\n", "-y\n", "+z\n", noFeed), one([4]int{1, 2, 1, 2}, " x\n", "-y\n", "+z")},
		{"behind a blank", hunkText("1", "1", "- \n", noFeed, "+\r\n", noFeed), one([4]int{1, 1, 1, 1}, "- ", "+\r")},
		{"behind the mark as a line", hunkText("1", "0,0", "-"+noFeed, noFeed), one([4]int{1, 1, 0, 0}, "-"+strings.TrimSuffix(noFeed, "\n"))},
		{"behind a sign as a line", hunkText("1", "1", "--\n", noFeed, "++\n", noFeed), one([4]int{1, 1, 1, 1}, "--", "++")},
		{"in a hunk that is not the last one", hunkText("1", "0,0", "-x\n", noFeed) + goes, []api.Patch{patchOf(samples.Hunk([4]int{1, 1, 0, 0}, "-x"), gone())}},
		{"in a patch that is not the last one", hunkText("1", "0,0", "-x\n", noFeed) + names + goes, []api.Patch{patchOf(samples.Hunk([4]int{1, 1, 0, 0}, "-x")), patchOf(gone())}},
	} {
		t.Run(c.name, func(t *testing.T) {
			checkParse(t, names+c.text, c.want)
			checkByWords(t, names+c.text)
		})
	}
	for _, c := range []struct {
		name string
		text string
		at   int
	}{
		{"at the front", noFeed + names + goes, 1},
		{"behind the old name", "--- a\n" + noFeed + "+++ b\n" + goes, 2},
		{"behind the new name", names + noFeed + goes, 3},
		{"behind the line that begins a hunk", names + hunkText("1", "0,0", noFeed, "-x\n"), 4},
		{"behind an old line that is not the last one", names + hunkText("1,2", "0,0", "-x\n", noFeed, "-y\n"), 5},
		{"behind a new line that is not the last one", names + hunkText("0,0", "1,2", "+x\n", noFeed, "+y\n"), 5},
		{"behind a kept line that is neither", names + hunkText("1,2", "1,2", " x\n", noFeed, "-y\n", "+z\n"), 5},
		{"behind a kept line that is the last old one alone", names + hunkText("1", "1,2", " x\n", noFeed, "+y\n"), 5},
		{"behind a kept line that is the last new one alone", names + hunkText("1,2", "1", " x\n", noFeed, "-y\n"), 5},
		{"behind an old line, and a kept one is the last", names + hunkText("1,2", "1", "-x\n", noFeed, " y\n"), 5},
		{"behind a new line, and a kept one is the last", names + hunkText("1", "1,2", "+x\n", noFeed, " y\n"), 5},
		{"behind a new line, and old ones are the last", names + hunkText("1", "1,2", "+x\n", noFeed, "+y\n", "-z\n"), 5},
		{"behind an empty old line", names + hunkText("1", "0,0", "-\n", noFeed), 5},
		{"behind an empty new line", names + hunkText("0,0", "1", "+\n", noFeed), 5},
		{"behind an empty kept line", names + hunkText("1,2", "1", "-x\n", " \n", noFeed), 6},
		{"behind an empty old line, a new one follows", names + hunkText("1", "1", "-\n", noFeed, "+x\n"), 5},
		{"twice at the end", names + hunkText("1", "0,0", "-x\n", noFeed, noFeed), 6},
		{"twice, a new line follows", names + hunkText("1", "1", "-x\n", noFeed, noFeed, "+y\n"), 6},
		{"with an old line behind it", names + hunkText("1", "0,0", "-x\n", noFeed, "-y\n"), 6},
		{"with a kept line behind it", names + hunkText("1", "1", "-x\n", noFeed, " y\n"), 6},
		{"behind a later name", names + goes + "--- a\n" + noFeed, 6},
	} {
		t.Run(c.name, func(t *testing.T) {
			checkFault(t, c.text, c.at, api.ErrText)
			checkByWords(t, c.text)
		})
	}
}

// Only just the mark is one.
func TestParseOfWhatIsNearlyTheMark(t *testing.T) {
	const bare = `\ No newline at end of file`
	wrong := []string{bare, bare + " \n", "\t" + bare + "\n", bare + "\r\n", bare + ".\n", "\\\n", "\\ \n", "\\", strings.ToLower(bare) + "\n", "/" + bare[1:] + "\n"}
	for i := range len(bare) {
		wrong = append(wrong, bare[:i]+bare[i+1:]+"\n", bare[:i]+"x"+bare[i+1:]+"\n", bare[:i]+"x"+bare[i:]+"\n", bare[:i+1])
	}
	for _, line := range wrong {
		if line == bare[1:]+"\n" {
			continue // it begins with a blank
		}
		checkFault(t, names+hunkText("1", "0,0", "-x\n", line), 5, api.ErrText)
		checkFault(t, names+hunkText("0,0", "1", "+x\n", line), 5, api.ErrText)
		checkFault(t, names+hunkText("1,2", "1", "-x\n", " y\n", line), 6, api.ErrText)
		checkFault(t, names+hunkText("1", "1", "-x\n", line), 5, api.ErrText)
	}
}

// A text that ends behind each kind of line, and within its last one.
func TestParseOfTextsThatEnd(t *testing.T) {
	for _, c := range []struct {
		name string
		text string
		code api.Errno // of the text with its last line feed; ErrShort is told behind it
	}{
		{"behind the old name", "--- a\n", api.ErrShort},
		{"behind the new name", names, api.ErrShort},
		{"behind the line that begins a hunk", names + hunkText("1", "1"), api.ErrShort},
		{"behind a kept line", names + hunkText("1,2", "1,2", " x\n"), api.ErrShort},
		{"behind an old line", names + hunkText("1,2", "0,0", "-x\n"), api.ErrShort},
		{"behind a last old line", names + hunkText("1", "1", "-x\n"), api.ErrShort},
		{"behind a new line", names + hunkText("0,0", "1,2", "+x\n"), api.ErrShort},
		{"behind a last new line", names + hunkText("1", "1", "+x\n"), api.ErrShort},
		{"behind the mark", names + hunkText("1", "1", "-x\n", noFeed), api.ErrShort},
		{"behind a hunk's last old line", names + goes, api.OK},
		{"behind a hunk's last new line", names + hunkText("0,0", "1", "+x\n"), api.OK},
		{"behind a hunk's last kept line", names + hunkText("1", "1,2", "+x\n", " y\n"), api.OK},
		{"behind a hunk's last mark", names + hunkText("0,0", "1", "+x\n", noFeed), api.OK},
	} {
		t.Run(c.name, func(t *testing.T) {
			for _, ahead := range []string{"", names + goes, names + goes + goes} {
				text := ahead + c.text
				n := strings.Count(text, "\n")
				if c.code == api.OK {
					checkByWords(t, text)
				} else {
					checkFault(t, text, n+1, c.code)
				}
				checkFault(t, strings.TrimSuffix(text, "\n"), n, api.ErrText)
			}
		})
	}
	checkFault(t, "x", 1, api.ErrText)
	checkFault(t, "\n", 1, api.ErrText)
}

// A hunk that changes nothing is told when its lines are through, with the line that begins it, whatever stands behind them.
func TestParseOfHunksThatChangeNothing(t *testing.T) {
	for _, text := range []string{
		hunkText("1", "1", " x\n"), hunkText("1,2", "1,2", " x\n", " y\n"), hunkText("5,1", "7,1", " \n"), hunkText("1", "1", " x\n", noFeed),
		hunkText("0,0", "0,0"), hunkText("1,0", "1,0"), hunkText("5,0", "0,0"), hunkText("2147483647,0", "2147483647,0"), "@@ -1 +1 @@ -x +y\n x\n",
	} {
		for _, behind := range []string{"", goes, names + goes, "x\n", "x", "-x\n", "+x\n", " x\n", "-x", " ", noFeed, strings.TrimSuffix(noFeed, "\n"), noFeed + noFeed, "--- \n", "@@\n", names, text} {
			checkFault(t, names+text+behind, 3, api.ErrScript)
			checkFault(t, names+goes+text+behind, 5, api.ErrScript)
			checkFault(t, names+goes+names+text+behind, 7, api.ErrScript)
			checkByWords(t, names+text+behind)
		}
	}
	checkFault(t, names+hunkText("1,2", "1,2", " x\n"), 5, api.ErrShort)
	checkFault(t, names+hunkText("1,2", "1,2", " x\n", "x\n"), 5, api.ErrText)
	checkFault(t, names+hunkText("1,2", "1,2", " x\n", " y"), 5, api.ErrText)
	checkFault(t, names+hunkText("1,2", "1,2", " x\n", noFeed), 5, api.ErrText)
}

// Of two wrong things the first one is told, as the text is read from the front on.
func TestParseOfTwoWrongThings(t *testing.T) {
	for _, c := range []struct {
		name string
		text string
		at   int
		code api.Errno
	}{
		{"both names", "--- a b\n+++ c d\n" + goes, 1, api.ErrName},
		{"a name and no name", "--- a b\nx\n" + goes, 1, api.ErrName},
		{"no name and a name", "x\n+++ a b\n" + goes, 1, api.ErrText},
		{"a name, and the end", "--- a b\n", 1, api.ErrName},
		{"a name, and its line feed", "--- a b", 1, api.ErrText},
		{"the number 0, and the other count", names + hunkText("0", "x", "-x\n"), 3, api.ErrText},
		{"the number 0, and no blank behind it", names + "@@ -0 +1 @@x\n", 3, api.ErrText},
		{"the number 0, and its line feed", names + "@@ -0 +1 @@", 3, api.ErrText},
		{"the number 0, and a count that is too great", names + hunkText("0,2147483648", "1"), 3, api.ErrText},
		{"the number 0, and kept lines alone", names + hunkText("0", "0", " x\n"), 3, api.ErrRange},
		{"the number 0, and the end", names + hunkText("0", "1"), 3, api.ErrRange},
		{"kept lines alone, and too few", names + hunkText("1,2", "1,2", " x\n"), 5, api.ErrShort},
		{"kept lines alone, and too many", names + hunkText("1", "1", " x\n", " y\n"), 3, api.ErrScript},
		{"kept lines alone, and one of no sign", names + hunkText("1,2", "1,2", " x\n", "y\n"), 5, api.ErrText},
		{"two lines of no sign", names + hunkText("1,2", "0,0", "x\n", "y\n"), 4, api.ErrText},
		{"a line of no sign, and its line feed", names + hunkText("1,2", "0,0", "x"), 4, api.ErrText},
		{"a line of no sign, and kept lines alone later", names + hunkText("1", "0,0", "x\n") + hunkText("1", "1", " x\n"), 4, api.ErrText},
		{"kept lines alone, and a line of no sign later", names + hunkText("1", "1", " x\n") + hunkText("1", "0,0", "x\n"), 3, api.ErrScript},
		{"a later hunk, and a still later one", names + goes + hunkText("0", "1") + hunkText("x", "y"), 5, api.ErrRange},
		{"a hunk, and a later name", names + hunkText("1,0", "1,0") + "--- \n", 3, api.ErrScript},
		{"a name, and a later hunk", names + goes + "--- \n+++ b\n" + hunkText("1,0", "1,0"), 5, api.ErrName},
		{"two lines of no kind", names + goes + "x\ny\n", 5, api.ErrText},
		{"a mark, and the end", names + hunkText("1,2", "0,0", "-x\n", noFeed), 5, api.ErrText},
	} {
		t.Run(c.name, func(t *testing.T) {
			checkFault(t, c.text, c.at, c.code)
			checkByWords(t, c.text)
		})
	}
}

package ctxfmt_test

import (
	"slices"
	"strings"
	"testing"

	"redline/api"
	"redline/samples"
)

// Promise 15.2.

// goes is a hunk's text, as short as it may be, and gone the hunk.
const goes = starLine + "*** 1 ****\n- x\n--- 0 ----\n"

func gone() api.Hunk { return samples.Hunk([4]int{1, 1, 0, 0}, "-x\n") }

// one is a patch from a to b of one hunk.
func one(numbers [4]int, texts ...string) []api.Patch {
	return []api.Patch{patchOf(samples.Hunk(numbers, texts...))}
}

func TestParseOfTheChaptersExamples(t *testing.T) {
	checkParse(t, "*** a\n--- b\n***************\n*** 1,3 ****\n  1\n! 2\n  3\n--- 1,3 ----\n  1\n! x\n  3\n", one([4]int{1, 3, 1, 3}, " 1\n", "-2\n", "+x\n", " 3\n"))
	const text = "*** a\n--- b\n***************\n*** 1,2 ****\n  1\n- 2\n--- 1 ----\n"
	checkParse(t, text, one([4]int{1, 2, 1, 1}, " 1\n", "-2\n"))
	checkFault(t, strings.Replace(text, "- 2\n", "", 1), 3, api.ErrScript)
	checkFault(t, strings.Replace(text, "1,2", "1,3", 1), 4, api.ErrCount)
	checkFault(t, strings.Replace(text, "- 2", "! 2", 1), 3, api.ErrMatch)
}

func TestParseOfHunks(t *testing.T) {
	var l []api.Hunk
	var text strings.Builder
	for _, c := range formCases() {
		t.Run(c.name, func(t *testing.T) {
			checkParse(t, names+c.text(), []api.Patch{patchOf(c.hunk)})
			checkParse(t, names+goes+c.text()+goes, []api.Patch{patchOf(gone(), c.hunk, gone())})
			checkParse(t, names+c.text()+names+c.text(), []api.Patch{patchOf(c.hunk), patchOf(c.hunk)})
			checkByWords(t, names+c.text())
		})
		l = append(l, c.hunk)
		text.WriteString(c.text())
	}
	checkParse(t, names+text.String(), []api.Patch{patchOf(l...)})
}

// What Print does not write so, and may stand so nevertheless.
func TestParseOfWhatMayStandOtherwise(t *testing.T) {
	for _, c := range []struct {
		name string
		text string
		want []api.Patch
	}{
		{"old lines that are kept alone", hunkText("1", "  1\n", "1,2", "  1\n+ x\n"), one([4]int{1, 1, 1, 2}, " 1\n", "+x\n")},
		{"new lines that are kept alone", hunkText("1,2", "  1\n- x\n", "1", "  1\n"), one([4]int{1, 2, 1, 1}, " 1\n", "-x\n")},
		{"new lines that are kept alone, with the mark", hunkText("1,2", "- x\n  1\n"+noFeed, "1", "  1\n"+noFeed), one([4]int{1, 2, 1, 1}, "-x\n", " 1")},
		{"the same for the same", hunkText("1", "! x\n", "1", "! x\n"), one([4]int{1, 1, 1, 1}, "-x\n", "+x\n")},
		{"a single number of no line, behind others", hunkText("7", "- x\n", "9", ""), one([4]int{7, 1, 9, 0}, "-x\n")},
		{"hunks in no order", goes + hunkText("1", "", "1", "+ y\n") + goes, []api.Patch{patchOf(gone(), samples.Hunk([4]int{1, 0, 1, 1}, "+y\n"), gone())}},
	} {
		t.Run(c.name, func(t *testing.T) {
			checkParse(t, names+c.text, c.want)
			checkByWords(t, names+c.text)
		})
	}
}

func TestParseOfSeveralPatches(t *testing.T) {
	checkParse(t, "", nil)
	checkParse(t, names+goes, []api.Patch{patchOf(gone())})
	checkParse(t, names+goes+"*** c\n--- /dev/null\n"+goes+goes+"*** \" \"\n--- d\n"+goes, []api.Patch{
		patchOf(gone()),
		{Old: "c", Hunks: []api.Hunk{gone(), gone()}},
		{Old: " ", New: "d", Hunks: []api.Hunk{gone()}},
	})
	checkParse(t, names+hunkText("0", "", "1", "+ x\n"+noFeed)+names+goes, []api.Patch{patchOf(samples.Hunk([4]int{0, 0, 1, 1}, "+x")), patchOf(gone())})
	checkFault(t, names, 3, api.ErrShort)
	checkFault(t, names+names+goes, 3, api.ErrText)
	checkFault(t, names+goes+names, 9, api.ErrShort)
	checkFault(t, names+goes+names+names+goes, 9, api.ErrText)
	checkFault(t, goes, 1, api.ErrText)
	checkFault(t, "\n"+names+goes, 1, api.ErrText)
	checkFault(t, names+goes+"\n"+names+goes, 7, api.ErrText)
	checkFault(t, names+goes+"diff a b\n"+names+goes, 7, api.ErrText)
}

func TestParseOfNames(t *testing.T) {
	for _, c := range samples.FileNames() {
		checkParse(t, "*** "+c.Text+"\n--- b\n"+goes, []api.Patch{{Old: c.Name, New: "b", Hunks: []api.Hunk{gone()}}})
		checkParse(t, "*** a\n--- "+c.Text+"\n"+goes, []api.Patch{{Old: "a", New: c.Name, Hunks: []api.Hunk{gone()}}})
		checkParse(t, names+goes+"*** "+c.Text+"\n--- "+c.Text+"\n"+goes, []api.Patch{patchOf(gone()), {Old: c.Name, New: c.Name, Hunks: []api.Hunk{gone()}}})
	}
}

func TestParseOfWrongNames(t *testing.T) {
	for _, name := range samples.WrongNames() {
		checkFault(t, "*** "+name+"\n--- b\n"+goes, 1, api.ErrName)
		checkFault(t, "*** a\n--- "+name+"\n"+goes, 2, api.ErrName)
		checkFault(t, "*** "+name+"\n", 1, api.ErrName)
		checkFault(t, "*** a\n--- "+name+"\n", 2, api.ErrName)
		checkFault(t, "*** "+name+"\n--- "+name+"\n"+goes, 1, api.ErrName)
		checkFault(t, "*** "+name, 1, api.ErrText)
		checkFault(t, "*** a\n--- "+name, 2, api.ErrText)
		checkFault(t, names+goes+"*** "+name+"\n--- b\n"+goes, 7, api.ErrName)
		checkFault(t, names+goes+"*** a\n--- "+name+"\n"+goes, 8, api.ErrName)
	}
}

// Every short text as a name, of bytes of each kind.
func TestParseOfAllShortNames(t *testing.T) {
	right := 0
	samples.Texts("\"\\ a0\xff", 6, func(s string) {
		if checkByWords(t, "*** "+s+"\n--- b\n"+goes) {
			right++
		}
	})
	if right < 20 {
		t.Errorf("only %d of them are names", right)
	}
}

// What must stand ahead of a name.
func TestParseOfLinesWithoutNames(t *testing.T) {
	for _, line := range []string{"", "*", "**", "***", "***a", "****", "**** a", " *** a", "** a", "***\ta", "--- a", "+++ a", "---", "x", "*** ", "--- ", "\\ x", "\x00", "---a", "---- a", "-- a", " --- a", "---\ta", "- a", "  a", "! a", "+ a"} {
		if line != "*** " {
			if line != "" {
				checkFault(t, line, 1, api.ErrText)
			}
			checkFault(t, line+"\n--- b\n"+goes, 1, api.ErrText)
			if !strings.HasPrefix(line, "  ") && !strings.HasPrefix(line, "+ ") && !strings.HasPrefix(line, "! ") {
				checkFault(t, names+goes+line+"\n--- b\n"+goes, 7, api.ErrText)
			}
		}
		if line != "--- " && line != "--- a" {
			if line != "" {
				checkFault(t, "*** a\n"+line, 2, api.ErrText)
			}
			checkFault(t, "*** a\n"+line+"\n"+goes, 2, api.ErrText)
			checkFault(t, names+goes+"*** a\n"+line+"\n"+goes, 8, api.ErrText)
		}
	}
}

func TestParseOfLinesOfStars(t *testing.T) {
	const stars = "***************"
	rest := strings.TrimPrefix(goes, starLine)
	for _, line := range []string{stars, stars + " ", stars + "  ", stars + " x", stars + " *", stars + " func main() {", stars + " \x00\xff\r", stars + " " + stars, stars + " " + strings.Repeat("x", 5000)} {
		checkParse(t, names+line+"\n"+rest, []api.Patch{patchOf(gone())})
		checkParse(t, names+goes+line+"\n"+rest, []api.Patch{patchOf(gone(), gone())})
		checkFault(t, names+line, 3, api.ErrText)
		checkFault(t, names+goes+line, 7, api.ErrText)
		checkFault(t, names+line+"\n", 4, api.ErrShort)
		checkFault(t, names+goes+line+"\n", 8, api.ErrShort)
	}
	for _, line := range []string{stars[1:], stars + "*", stars + "x", stars + "\t", stars + "\r", stars + "\x00", stars + stars, stars[1:] + " ", stars[1:] + " *", " " + stars, stars[1:] + "-", "", "*", "*** ", "*** a", "*** 1 ****", "--- b", "---------------", "- x", "\\", "x"} {
		checkFault(t, names+line+"\n"+rest, 3, api.ErrText)
		if line != "" {
			checkFault(t, names+line, 3, api.ErrText)
		}
		if !strings.HasPrefix(line, "*** ") {
			checkFault(t, names+goes+line+"\n"+rest, 7, api.ErrText)
		}
	}
	for c := range 256 {
		checkByWords(t, names+stars+string([]byte{byte(c)})+"\n"+rest)
		checkByWords(t, names+goes+stars+string([]byte{byte(c)})+"x\n"+rest)
	}
}

// rightRanges are ranges, and the number of the first line and how many they say; of a single number 1 stands for one or none.
func rightRanges() map[string][2]int {
	const top = api.MaxNumber
	return map[string][2]int{
		"0": {0, 1}, "1": {1, 1}, "9": {9, 1}, "10": {10, 1}, "2147483647": {top, 1},
		"1,2": {1, 2}, "1,3": {1, 3}, "9,10": {9, 2}, "99,101": {99, 3}, "2147483646,2147483647": {top - 1, 2}, "2147483645,2147483647": {top - 2, 3},
		"1,2147483647": {1, top}, "1000000000,2147483647": {1000000000, top - 999999999}, "2,2147483647": {2, top - 1},
	}
}

func TestParseOfRightRanges(t *testing.T) {
	for s, want := range rightRanges() {
		if want[1] > 100 {
			checkFault(t, names+hunkText(s, "- x\n", "0", ""), 4, api.ErrCount)
			checkFault(t, names+hunkText("0", "", s, "+ x\n"), 5, api.ErrCount)
			continue
		}
		n := want[1]
		if want[0] > 0 {
			checkParse(t, names+hunkText(s, strings.Repeat("- x\n", n), "5", ""), []api.Patch{patchOf(api.Hunk{A: want[0], AN: n, B: 5, Lines: slices.Repeat(samples.Marks("-x\n"), n)})})
			checkParse(t, names+hunkText("5", "", s, strings.Repeat("+ x\n", n)), []api.Patch{patchOf(api.Hunk{A: 5, B: want[0], BN: n, Lines: slices.Repeat(samples.Marks("+x\n"), n)})})
		}
		if n == 1 {
			checkParse(t, names+hunkText(s, "", "5", "+ x\n"), one([4]int{want[0], 0, 5, 1}, "+x\n"))
			checkParse(t, names+hunkText("5", "- x\n", s, ""), one([4]int{5, 1, want[0], 0}, "-x\n"))
		}
	}
}

// wrongRanges are texts that are no ranges.
func wrongRanges() []string {
	return []string{
		"", " ", ",", "x", "a", "1,", ",1", ",2", "1,2,", "1,2,3", ",1,2", "1,,2", "1 2", "1-2", "1;2", "1.2", "1, 2", "1 ,2", " 1", "1 ", " 1,2", "1,2 ", "1\t", "1\r", "1\x00",
		"1,1", "2,1", "10,9", "2147483647,1", "2147483647,2147483647", "0,0", "0,1", "0,2", "0,2147483647", "1,0", "5,0",
		"00", "01", "001", "01,2", "1,02", "0,01", "00,1", "-1", "+1", "-0", "1,-2", "1,+2", "0x1", "1e1", "1_0", "1.0", "\u0661", "\uff11", `"1"`,
		"2147483648", "1,2147483648", "2147483647,2147483648", "2147483648,2147483649", "4294967296", "4294967297", "1,4294967298", "9999999999", "1,9999999999",
		"9223372036854775807", "9223372036854775808", "18446744073709551616", "18446744073709551617", "1,18446744073709551618", "99999999999999999999", "1,99999999999999999999", "99999999999999999999,1",
		strings.Repeat("9", 400), "1," + strings.Repeat("9", 400), "1" + strings.Repeat("0", 400), "*", "****", "1 ****", "1 ----", "*** 1", "--- 1", "1,2 3",
	}
}

func TestParseOfWrongRanges(t *testing.T) {
	for _, s := range wrongRanges() {
		checkFault(t, names+hunkText(s, "- x\n", "0", ""), 4, api.ErrText)
		checkFault(t, names+hunkText(s, "", "1", "+ x\n"), 4, api.ErrText)
		checkFault(t, names+hunkText("1", "- x\n", s, ""), 6, api.ErrText)
		checkFault(t, names+hunkText("0", "", s, "+ x\n"), 5, api.ErrText)
		checkFault(t, names+hunkText("1,3", "  1\n! 2\n  3\n", s, "  1\n! x\n  3\n"), 8, api.ErrText)
		checkFault(t, names+hunkText(s, "- x\n", s, ""), 4, api.ErrText)
		checkFault(t, names+goes+hunkText(s, "- x\n", "0", ""), 8, api.ErrText)
		checkFault(t, names+starLine+"*** "+s+" ****\n", 4, api.ErrText)
		checkFault(t, names+starLine+"*** "+s+" ****", 4, api.ErrText)
		checkFault(t, names+starLine+"*** 1 ****\n- x\n--- "+s+" ----", 6, api.ErrText)
	}
}

// What must stand around a range.
func TestParseOfLinesWithoutRanges(t *testing.T) {
	for _, line := range []string{
		"*** 1", "*** 1 ", "*** 1 *", "*** 1 ***", "*** 1 *****", "*** 1 **** ", "*** 1 ****x", "*** 1 ****\r", "*** 1****", "***1 ****", "*** 1  ****", "***  1 ****", "*** 1\t****", "***\t1 ****", " *** 1 ****", "**** 1 ****", "** 1 ****", "1 ****", "1", "*** ****", "***  ****", "*** 1 ----", "--- 1 ****", "+++ 1 ++++", "@@ -1 +1 @@",
		"", "x", "- x", "+ x", "! x", "  x", "***", "*** ", "*** a", "***************", "\\ No newline at end of file", "\x00",
	} {
		checkFault(t, names+starLine+line+"\n- x\n--- 0 ----\n", 4, api.ErrText)
		checkFault(t, names+starLine+line+"\n--- 1 ----\n+ x\n", 4, api.ErrText)
		checkFault(t, names+goes+starLine+line+"\n- x\n--- 0 ----\n", 8, api.ErrText)
		if line != "" {
			checkFault(t, names+starLine+line, 4, api.ErrText)
		}
	}
	checkFault(t, names+starLine+"--- 1 ----\n+ x\n", 4, api.ErrText)
	for _, line := range []string{
		"--- 0", "--- 0 ", "--- 0 -", "--- 0 ---", "--- 0 -----", "--- 0 ---- ", "--- 0 ----x", "--- 0 ----\r", "--- 0----", "---0 ----", "--- 0  ----", "---  0 ----", "--- 0\t----", "---\t0 ----", " --- 0 ----", "---- 0 ----", "-- 0 ----", "0 ----", "0", "--- ----", "---  ----", "*** 0 ****", "*** 0 ----", "--- 0 ****", "+++ 0 ++++",
		"", "x", "+ x", "-", "-x", " ", " x", "!", "!x", "---", "--- ", "--- b", "***************", "\x00",
	} {
		checkFault(t, names+starLine+"*** 1 ****\n- x\n"+line+"\n", 6, api.ErrText)
		checkFault(t, names+starLine+"*** 1 ****\n- x\n"+noFeed+line+"\n", 7, api.ErrText)
		checkFault(t, names+starLine+"*** 0 ****\n"+line+"\n+ x\n", 5, api.ErrText)
		if line != "" {
			checkFault(t, names+starLine+"*** 1 ****\n- x\n"+line, 6, api.ErrText)
			checkFault(t, names+starLine+"*** 1 ****\n"+line, 5, api.ErrText)
		}
	}
}

// Lines that are empty but for what stands ahead of them, and such that lack it.
func TestParseOfEmptyLines(t *testing.T) {
	checkParse(t, names+hunkText("1,3", "  \n- \n  \n", "1,2", ""), one([4]int{1, 3, 1, 2}, " \n", "-\n", " \n"))
	checkParse(t, names+hunkText("1,2", "", "1,3", "  \n+ \n  \n"), one([4]int{1, 2, 1, 3}, " \n", "+\n", " \n"))
	checkParse(t, names+hunkText("1,2", "! \n  \n", "1,3", "! \n! \n  \n"), one([4]int{1, 2, 1, 3}, "-\n", "+\n", "+\n", " \n"))
	for _, line := range []string{"", " ", "-", "+", "!"} {
		checkFault(t, names+hunkText("1,2", "- x\n"+line+"\n", "0", ""), 6, api.ErrText)
		checkFault(t, names+hunkText("1", line+"\n", "0", ""), 5, api.ErrText)
		checkFault(t, names+hunkText("0", "", "1", "+ x\n"+line+"\n"), 7, api.ErrText)
		checkFault(t, names+hunkText("1", "- x\n", "0", line+"\n"), 7, api.ErrText)
	}
}

// On each side its own signs alone may stand.
func TestParseOfSignsOfTheOtherSide(t *testing.T) {
	checkFault(t, names+hunkText("1", "+ x\n", "0", ""), 5, api.ErrText)
	checkFault(t, names+hunkText("1,2", "- x\n+ y\n", "0", ""), 6, api.ErrText)
	checkFault(t, names+hunkText("1,2", "  x\n+ y\n", "1", ""), 6, api.ErrText)
	checkFault(t, names+hunkText("0", "", "1", "+ x\n- y\n"), 7, api.ErrText)
	checkFault(t, names+hunkText("1", "- x\n", "0", "- y\n"), 7, api.ErrText)
	checkFault(t, names+hunkText("1", "! x\n", "1", "! y\n- z\n"), 8, api.ErrText)
	checkFault(t, names+hunkText("0", "", "1", "- x\n"), 3, api.ErrScript)
	checkFault(t, names+hunkText("1", "- x\n", "1,2", "- y\n"), 6, api.ErrCount)
	for c := range 256 {
		front := string([]byte{byte(c)})
		checkByWords(t, names+hunkText("1,2", "- x\n"+front+" y\n", "0", ""))
		checkByWords(t, names+hunkText("1,2", "- x\n"+front+front+"y\n", "0", ""))
		checkByWords(t, names+hunkText("1,2", "- x\n-"+front+"y\n", "0", ""))
		checkByWords(t, names+hunkText("0", "", "1,2", "+ x\n"+front+" y\n"))
		checkByWords(t, names+hunkText("0", "", "1,2", "+ x\n"+front+front+"y\n"))
		checkByWords(t, names+hunkText("0", "", "1,2", "+ x\n+"+front+"y\n"))
	}
}

func TestParseOfMarks(t *testing.T) {
	for _, c := range []struct {
		name string
		text string
		want []api.Patch
	}{
		{"behind the last old line", hunkText("1,2", "- x\n- y\n"+noFeed, "0", ""), one([4]int{1, 2, 0, 0}, "-x\n", "-y")},
		{"behind the last new line", hunkText("0", "", "1,2", "+ x\n+ y\n"+noFeed), one([4]int{0, 0, 1, 2}, "+x\n", "+y")},
		{"behind both", hunkText("1", "! x\n"+noFeed, "1", "! y\n"+noFeed), one([4]int{1, 1, 1, 1}, "-x", "+y")},
		{"behind both that are kept", hunkText("1,2", "- x\n  y\n"+noFeed, "1", "  y\n"+noFeed), one([4]int{1, 2, 1, 1}, "-x\n", " y")},
		{"behind the old one that is kept, the new ones are left out", hunkText("1,2", "- x\n  y\n"+noFeed, "1", ""), one([4]int{1, 2, 1, 1}, "-x\n", " y")},
		{"behind the new one that is kept, the old ones are left out", hunkText("1", "", "1,2", "+ x\n  y\n"+noFeed), one([4]int{1, 1, 1, 2}, "+x\n", " y")},
		{"behind a blank", hunkText("1", "!  \n"+noFeed, "1", "! \r\n"+noFeed), one([4]int{1, 1, 1, 1}, "- ", "+\r")},
		{"behind the mark as a line", hunkText("1", "- "+noFeed+noFeed, "0", ""), one([4]int{1, 1, 0, 0}, "-"+strings.TrimSuffix(noFeed, "\n"))},
		{"in a hunk that is not the last one", hunkText("1", "- x\n"+noFeed, "0", "") + goes, []api.Patch{patchOf(samples.Hunk([4]int{1, 1, 0, 0}, "-x"), gone())}},
	} {
		t.Run(c.name, func(t *testing.T) {
			checkParse(t, names+c.text, c.want)
			checkByWords(t, names+c.text)
		})
	}
	for _, c := range []struct {
		name string
		text string
		at   int
		code api.Errno
	}{
		{"at the front", noFeed + names + goes, 1, api.ErrText},
		{"behind the old name", "*** a\n" + noFeed + "--- b\n" + goes, 2, api.ErrText},
		{"behind the new name", names + noFeed + goes, 3, api.ErrText},
		{"behind the line of stars", names + starLine + noFeed + "*** 1 ****\n- x\n--- 0 ----\n", 4, api.ErrText},
		{"behind the old range", names + hunkText("1", noFeed+"- x\n", "0", ""), 5, api.ErrText},
		{"behind the old range of lines that are left out", names + hunkText("0", noFeed, "1", "+ x\n"), 5, api.ErrText},
		{"behind the new range of lines that are left out", names + hunkText("1", "- x\n", "0", noFeed), 7, api.ErrText},
		{"behind the new range", names + hunkText("1", "- x\n", "1", noFeed+"+ x\n"), 7, api.ErrText},
		{"behind the new range, where a line is wanted", names + hunkText("0", "", "1", noFeed+"+ x\n"), 3, api.ErrScript},
		{"behind an empty old line", names + hunkText("1", "- \n"+noFeed, "0", ""), 6, api.ErrText},
		{"behind an empty old line that is kept", names + hunkText("1,2", "- x\n  \n"+noFeed, "1", ""), 7, api.ErrText},
		{"behind an empty new line", names + hunkText("0", "", "1", "+ \n"+noFeed), 7, api.ErrText},
		{"behind an empty new line that is changed", names + hunkText("1", "! x\n", "1", "! \n"+noFeed), 8, api.ErrText},
		{"behind an empty new line of a hunk that is wrong", names + hunkText("0", "", "1,2", "+ \n"+noFeed), 5, api.ErrCount},
		{"twice behind old lines", names + hunkText("1", "- x\n"+noFeed+noFeed, "0", ""), 7, api.ErrText},
		{"twice behind new lines", names + hunkText("0", "", "1", "+ x\n"+noFeed+noFeed), 8, api.ErrText},
		{"with an old line behind it", names + hunkText("1,2", "- x\n"+noFeed+"- y\n", "0", ""), 7, api.ErrText},
		{"with a new line behind it", names + hunkText("0", "", "1", "+ x\n"+noFeed+"+ y\n"), 8, api.ErrText},
		{"with a new line behind it that was counted", names + hunkText("0", "", "1,2", "+ x\n"+noFeed+"+ y\n"), 5, api.ErrCount},
		{"behind a hunk", names + goes + noFeed, 7, api.ErrText},
		{"kept with it in the old lines alone", names + hunkText("1,2", "! x\n  y\n"+noFeed, "1,2", "! z\n  y\n"), 3, api.ErrMatch},
		{"kept with it in the new lines alone", names + hunkText("1,2", "! x\n  y\n", "1,2", "! z\n  y\n"+noFeed), 3, api.ErrMatch},
		{"kept with it, and a line comes behind it", names + hunkText("1", "  x\n"+noFeed, "1,2", "  x\n+ y\n"), 3, api.ErrMatch},
	} {
		t.Run(c.name, func(t *testing.T) {
			checkFault(t, c.text, c.at, c.code)
			checkByWords(t, c.text)
		})
	}
}

// Only just the mark is one.
func TestParseOfWhatIsNearlyTheMark(t *testing.T) {
	const bare = `\ No newline at end of file`
	wrong := []string{bare, bare + " \n", " " + bare + "\n", bare + "\r\n", bare + ".\n", "\\\n", "\\ \n", "\\", strings.ToLower(bare) + "\n", "/" + bare[1:] + "\n"}
	for i := range len(bare) {
		wrong = append(wrong, bare[:i]+bare[i+1:]+"\n", bare[:i]+"x"+bare[i+1:]+"\n", bare[:i]+"x"+bare[i:]+"\n", bare[:i+1])
	}
	for _, line := range wrong {
		checkFault(t, names+starLine+"*** 1 ****\n- x\n"+line, 6, api.ErrText)
		checkFault(t, names+hunkText("0", "", "1", "+ x\n"+line), 7, api.ErrText)
		checkFault(t, names+hunkText("0", "", "0", "+ x\n"+line), 5, api.ErrRange)
		checkFault(t, names+hunkText("1", "! x\n", "1", "! y\n"+line), 8, api.ErrText)
	}
}

// A text that ends behind each of its lines, and within its last one.
func TestParseOfTextsThatEnd(t *testing.T) {
	for _, c := range []struct {
		name string
		text string
		code api.Errno // of the text with its last line feed; ErrShort is told behind it
	}{
		{"behind the old name", "*** a\n", api.ErrShort},
		{"behind the new name", names, api.ErrShort},
		{"behind the stars", names + starLine, api.ErrShort},
		{"behind the old range", names + starLine + "*** 1 ****\n", api.ErrShort},
		{"behind the old range of no lines", names + starLine + "*** 0 ****\n", api.ErrShort},
		{"behind a kept old line", names + starLine + "*** 1 ****\n  x\n", api.ErrShort},
		{"behind a removed old line", names + starLine + "*** 1 ****\n- x\n", api.ErrShort},
		{"behind a changed old line", names + starLine + "*** 1,9 ****\n! x\n", api.ErrShort},
		{"behind the old lines' mark", names + starLine + "*** 1 ****\n- x\n" + noFeed, api.ErrShort},
		{"behind the new range", names + goes, api.OK},
		{"behind a new line", names + hunkText("0", "", "1", "+ x\n"), api.OK},
		{"behind a kept new line", names + hunkText("1", "", "1,2", "+ x\n  y\n"), api.OK},
		{"behind the new lines' mark", names + hunkText("0", "", "1", "+ x\n"+noFeed), api.OK},
	} {
		t.Run(c.name, func(t *testing.T) {
			for _, ahead := range []string{"", names + goes, names + goes + goes} {
				text := ahead + c.text
				n := strings.Count(text, "\n")
				if c.code == api.OK {
					checkByWords(t, text)
				} else {
					checkFault(t, text, n+1, c.code)
				}
				checkFault(t, strings.TrimSuffix(text, "\n"), n, api.ErrText)
			}
		})
	}
	checkFault(t, "x", 1, api.ErrText)
	checkFault(t, "\n", 1, api.ErrText)
}

// What is told when a hunk's lines are through: of several things the first one.
func TestParseOfWrongHunks(t *testing.T) {
	for _, c := range []struct {
		name string
		text string
		at   int
		code api.Errno
	}{
		{"no lines at all", hunkText("0", "", "0", ""), 3, api.ErrScript},
		{"no lines at all, of other numbers", hunkText("5", "", "7", ""), 3, api.ErrScript},
		{"kept lines alone, old ones", hunkText("1,2", "  1\n  2\n", "1,2", ""), 3, api.ErrScript},
		{"kept lines alone, new ones", hunkText("1,2", "", "1,2", "  1\n  2\n"), 3, api.ErrScript},
		{"kept lines alone, both", hunkText("1,2", "  1\n  2\n", "1,2", "  1\n  2\n"), 3, api.ErrScript},
		{"more old lines are said", hunkText("1,3", "- x\n- y\n", "0", ""), 4, api.ErrCount},
		{"more old lines are said than one", hunkText("1,2", "- x\n", "0", ""), 4, api.ErrCount},
		{"fewer old lines are said", hunkText("1,2", "- x\n- y\n- z\n", "0", ""), 4, api.ErrCount},
		{"one old line is said, two are there", hunkText("1", "- x\n- y\n", "0", ""), 4, api.ErrCount},
		{"old lines are said that are left out", hunkText("1,2", "", "1,2", "+ x\n  y\n"), 4, api.ErrCount},
		{"one old line is said, two are left out", hunkText("1", "", "1,3", "  x\n+ y\n  z\n"), 4, api.ErrCount},
		{"no old line is there, some are said", hunkText("1,2", "", "1", "+ x\n"), 4, api.ErrCount},
		{"more new lines are said", hunkText("0", "", "1,3", "+ x\n+ y\n"), 5, api.ErrCount},
		{"fewer new lines are said", hunkText("0", "", "1,2", "+ x\n+ y\n+ z\n"), 5, api.ErrCount},
		{"one new line is said, two are there", hunkText("0", "", "1", "+ x\n+ y\n"), 5, api.ErrCount},
		{"new lines are said that are left out", hunkText("1,2", "- x\n  y\n", "1,2", ""), 7, api.ErrCount},
		{"no new line is there, some are said", hunkText("1", "- x\n", "1,2", ""), 6, api.ErrCount},
		{"the number 0 with an old line", hunkText("0", "- x\n", "0", ""), 4, api.ErrRange},
		{"the number 0 with a new line", hunkText("0", "", "0", "+ x\n"), 5, api.ErrRange},
		{"the number 0 with an old line that is left out", hunkText("0", "", "1,2", "+ x\n  y\n"), 4, api.ErrRange},
		{"the number 0 with a new line that is left out", hunkText("1,2", "- x\n  y\n", "0", ""), 7, api.ErrRange},
		{"the number 0 with both", hunkText("0", "! x\n", "0", "! y\n"), 4, api.ErrRange},
		{"kept lines differ", hunkText("1,2", "  1\n! x\n", "1,2", "  2\n! y\n"), 3, api.ErrMatch},
		{"kept lines differ behind a piece", hunkText("1,2", "! x\n  1\n", "1,2", "! y\n  2\n"), 3, api.ErrMatch},
		{"kept lines differ in a blank", hunkText("1,2", "! x\n  1\n", "1,2", "! y\n  1 \n"), 3, api.ErrMatch},
		{"more kept lines are old", hunkText("1,3", "  1\n! x\n  2\n", "1,2", "  1\n! y\n"), 3, api.ErrMatch},
		{"more kept lines are new", hunkText("1,2", "  1\n! x\n", "1,3", "  1\n! y\n  2\n"), 3, api.ErrMatch},
		{"kept lines in another order", hunkText("1,3", "  1\n! x\n  2\n", "1,3", "  2\n! y\n  1\n"), 3, api.ErrMatch},
		{"kept lines are not in the new ones at all", hunkText("1,2", "  1\n- x\n", "1", "+ y\n"), 3, api.ErrMatch},
		{"! in the old lines alone", hunkText("1", "! x\n", "0", ""), 3, api.ErrMatch},
		{"! in the new lines alone", hunkText("0", "", "1", "! x\n"), 3, api.ErrMatch},
		{"! in the old lines alone, beside kept ones", hunkText("1,2", "  1\n! x\n", "1", "  1\n"), 3, api.ErrMatch},
		{"! in the new lines alone, beside kept ones", hunkText("1", "  1\n", "1,2", "  1\n! x\n"), 3, api.ErrMatch},
		{"! in different pieces", hunkText("1,2", "! x\n  1\n", "1,2", "  1\n! x\n"), 3, api.ErrMatch},
		{"- and ! in the old lines", hunkText("1,2", "- x\n! y\n", "1", "! z\n"), 3, api.ErrMatch},
		{"! and - in the old lines", hunkText("1,2", "! x\n- y\n", "1", "! z\n"), 3, api.ErrMatch},
		{"- and ! in the old lines, nothing new", hunkText("1,2", "- x\n! y\n", "0", ""), 3, api.ErrMatch},
		{"+ and ! in the new lines", hunkText("1", "! x\n", "1,2", "+ y\n! z\n"), 3, api.ErrMatch},
		{"! and + in the new lines", hunkText("1", "! x\n", "1,2", "! y\n+ z\n"), 3, api.ErrMatch},
		{"+ and ! in the new lines, nothing old", hunkText("0", "", "1,2", "+ y\n! z\n"), 3, api.ErrMatch},
		{"- in the old lines and + in the new ones", hunkText("1", "- x\n", "1", "+ y\n"), 3, api.ErrMatch},
		{"- and + between kept ones", hunkText("1,3", "  1\n- x\n  2\n", "1,3", "  1\n+ y\n  2\n"), 3, api.ErrMatch},
		{"- in the old lines and ! in the new ones", hunkText("1", "- x\n", "1", "! y\n"), 3, api.ErrMatch},
		{"! in the old lines and + in the new ones", hunkText("1", "! x\n", "1", "+ y\n"), 3, api.ErrMatch},
		{"a piece that is wrong behind one that is right", hunkText("1,3", "! x\n  1\n- z\n", "1,3", "! y\n  1\n+ z\n"), 3, api.ErrMatch},

		{"ErrScript and ErrCount", hunkText("1,3", "  1\n  2\n", "1,2", ""), 3, api.ErrScript},
		{"ErrScript and ErrCount of no lines", hunkText("1,3", "", "1,2", ""), 3, api.ErrScript},
		{"ErrScript and ErrRange", hunkText("0", "  1\n", "0", ""), 3, api.ErrScript},
		{"ErrScript and ErrMatch", hunkText("1", "  1\n", "1", "  2\n"), 3, api.ErrScript},
		{"ErrCount of both", hunkText("1,3", "! x\n", "1,4", "! y\n"), 4, api.ErrCount},
		{"ErrCount of the new range and ErrRange of the old one", hunkText("0", "! x\n", "1,4", "! y\n"), 6, api.ErrCount},
		{"ErrCount of the old range and ErrRange of the new one", hunkText("1,4", "! x\n", "0", "! y\n"), 4, api.ErrCount},
		{"ErrCount and ErrRange of one range", hunkText("0", "- x\n- y\n", "0", ""), 4, api.ErrCount},
		{"ErrCount and ErrMatch", hunkText("1,2", "! x\n", "0", ""), 4, api.ErrCount},
		{"ErrCount of the new range and ErrMatch", hunkText("1", "- x\n", "1,2", "+ x\n"), 6, api.ErrCount},
		{"ErrRange and ErrMatch", hunkText("0", "- x\n", "1", "+ x\n"), 4, api.ErrRange},
		{"ErrRange of the new range and ErrMatch", hunkText("1", "- x\n", "0", "+ x\n"), 6, api.ErrRange},
	} {
		t.Run(c.name, func(t *testing.T) {
			checkFault(t, names+c.text, c.at, c.code)
			checkFault(t, names+c.text+goes, c.at, c.code)
			checkFault(t, names+c.text+"x\n", c.at, c.code)
			checkFault(t, names+c.text+"x", c.at, c.code)
			checkFault(t, names+c.text+"*** \n", c.at, c.code)
			checkFault(t, names+c.text+"***************x\n", c.at, c.code)
			checkFault(t, names+c.text+names, c.at, c.code)
			checkFault(t, names+goes+c.text, c.at+4, c.code)
			checkFault(t, names+goes+names+c.text+c.text, c.at+6, c.code)
			checkByWords(t, names+c.text)
		})
	}
}

// Of two wrong lines the first one is told, as the text is read from the front on.
func TestParseOfTwoWrongLines(t *testing.T) {
	for _, c := range []struct {
		name string
		text string
		at   int
		code api.Errno
	}{
		{"both names", "*** a b\n--- c d\n" + goes, 1, api.ErrName},
		{"a name and no name", "*** a b\nx\n" + goes, 1, api.ErrName},
		{"no name and a name", "x\n--- a b\n" + goes, 1, api.ErrText},
		{"a name, and the end", "*** a b\n", 1, api.ErrName},
		{"the stars, and the old range", names + "**\n*** x ****\n", 3, api.ErrText},
		{"both ranges", names + hunkText("x", "- x\n", "y", ""), 4, api.ErrText},
		{"a count, and the new range", names + hunkText("1,9", "- x\n", "y", ""), 6, api.ErrText},
		{"a count, and the end", names + starLine + "*** 1,9 ****\n- x\n", 6, api.ErrShort},
		{"a count, and a line without its feed", names + hunkText("1,9", "- x\n", "1", "+ x"), 7, api.ErrText},
		{"a count, and an empty line without its feed", names + hunkText("1,9", "- x\n", "1", "+ "), 7, api.ErrText},
		{"a count, and a kept line without its feed", names + hunkText("1,9", "- x\n", "1", "  "), 7, api.ErrText},
		{"a count, and a line of another kind without its feed", names + hunkText("1,9", "- x\n", "1", "- "), 4, api.ErrCount},
		{"a count, and the mark without its feed", names + hunkText("1,9", "- x\n", "1", "+ x\n"+strings.TrimSuffix(noFeed, "\n")), 4, api.ErrCount},
		{"a hunk, and a later one", names + hunkText("1,9", "- x\n", "0", "") + hunkText("x", "", "1", ""), 4, api.ErrCount},
		{"a later hunk, and an earlier one", names + goes + hunkText("1,9", "- x\n", "0", "") + hunkText("0", "", "0", ""), 8, api.ErrCount},
		{"a hunk, and a later name", names + hunkText("0", "- x\n", "0", "") + "*** \n", 4, api.ErrRange},
		{"two lines of no kind", names + goes + "x\ny\n", 7, api.ErrText},
	} {
		t.Run(c.name, func(t *testing.T) {
			checkFault(t, c.text, c.at, c.code)
			checkByWords(t, c.text)
		})
	}
}

package ctxfmt_test

import (
	"fmt"
	"slices"
	"strings"
	"testing"

	"redline/api"
	"redline/ctxfmt"
	"redline/hunks"
	"redline/samples"
)

const (
	noFeed   = "\\ No newline at end of file\n" // the mark, as chapter 12 writes it
	starLine = "***************\n"
	names    = "*** a\n--- b\n" // the names of what patchOf makes
)

// told is something as it is told, of a long one its beginning.
func told(x any) string {
	return fmt.Sprintf("%.400s", fmt.Sprintf("%+q", x))
}

// patchOf is a patch from a to b of hunks.
func patchOf(l ...api.Hunk) api.Patch { return api.Patch{Old: "a", New: "b", Hunks: l} }

// hunkText is the text of a hunk out of its ranges and of its lines as they stand there.
func hunkText(oldRange, old, newRange, made string) string {
	return starLine + "*** " + oldRange + " ****\n" + old + "--- " + newRange + " ----\n" + made
}

// checkPrint holds Print against what it must answer.
func checkPrint(t *testing.T, p api.Patch, want string, code api.Errno) {
	t.Helper()
	if s, err := ctxfmt.Print(p); s != want || err != code {
		t.Errorf("%s: %s, %d, want %s, %d", told(p), told(s), err, told(want), code)
	}
}

// checkPrintByWords holds Print against the chapter's words.
func checkPrintByWords(t *testing.T, p api.Patch) {
	t.Helper()
	want, code := printByWords(p)
	checkPrint(t, p, want, code)
}

// rangeByWords is a range, by the chapter's words.
func rangeByWords(p, n int) string {
	if n == 0 || n == 1 {
		return fmt.Sprint(p)
	}
	return fmt.Sprintf("%d,%d", p, p+n-1)
}

// near tells whether a sign stands in the piece between lines with Same in which the line i is.
func near(l []api.Mark, i int, sign byte) bool {
	for j := i; j >= 0 && l[j].Sign != ' '; j-- {
		if l[j].Sign == sign {
			return true
		}
	}
	for j := i; j < len(l) && l[j].Sign != ' '; j++ {
		if l[j].Sign == sign {
			return true
		}
	}
	return false
}

// sideByWords is the old lines of a hunk, if sign is that of Removed, or the new ones, as they stand in a patch.
func sideByWords(l []api.Mark, sign byte) string {
	var s strings.Builder
	found := false
	for i, m := range l {
		found = found || m.Sign == sign
		front := string(rune(m.Sign)) + " "
		switch {
		case m.Sign != ' ' && m.Sign != sign:
			continue
		case m.Sign != ' ' && near(l, i, '-') && near(l, i, '+'):
			front = "! "
		}
		s.WriteString(front + strings.TrimSuffix(m.Text, "\n") + "\n")
		if !strings.HasSuffix(m.Text, "\n") {
			s.WriteString(noFeed)
		}
	}
	if !found {
		return ""
	}
	return s.String()
}

// printByWords is what Print must answer of any patch.
func printByWords(p api.Patch) (string, api.Errno) {
	if len(p.Old) > 64 || len(p.New) > 64 {
		return "", api.ErrName
	}
	if len(p.Hunks) > 4096 {
		return "", api.ErrLong
	}
	var s strings.Builder
	for i, h := range p.Hunks {
		if err := hunks.Check(h); err != api.OK {
			return "", err
		}
		if i == 0 {
			s.WriteString("*** " + samples.NameText(p.Old) + "\n--- " + samples.NameText(p.New) + "\n")
		}
		s.WriteString(hunkText(rangeByWords(h.A, h.AN), sideByWords(h.Lines, '-'), rangeByWords(h.B, h.BN), sideByWords(h.Lines, '+')))
	}
	return s.String(), api.OK
}

// Promise 15.1.

func TestPrintOfTheChaptersExamples(t *testing.T) {
	h := samples.Hunk([4]int{1, 3, 1, 3}, " 1\n", "-2\n", "+x\n", " 3\n")
	checkPrint(t, patchOf(h), "*** a\n--- b\n***************\n*** 1,3 ****\n  1\n! 2\n  3\n--- 1,3 ----\n  1\n! x\n  3\n", api.OK)
	h = samples.Hunk([4]int{1, 2, 1, 1}, " 1\n", "-2\n")
	checkPrint(t, patchOf(h), "*** a\n--- b\n***************\n*** 1,2 ****\n  1\n- 2\n--- 1 ----\n", api.OK)
}

// formCase is a hunk and its text, in pieces.
type formCase struct {
	name     string
	hunk     api.Hunk
	oldRange string
	old      string
	newRange string
	made     string
}

// text is the text of the hunk.
func (c formCase) text() string { return hunkText(c.oldRange, c.old, c.newRange, c.made) }

// formCases are hunks that stand in one way alone, and are read from it as they are.
func formCases() []formCase {
	const top = api.MaxNumber
	return []formCase{
		{"one goes", samples.Hunk([4]int{3, 1, 2, 0}, "-x\n"), "3", "- x\n", "2", ""},
		{"two go", samples.Hunk([4]int{3, 2, 2, 0}, "-x\n", "-y\n"), "3,4", "- x\n- y\n", "2", ""},
		{"one comes", samples.Hunk([4]int{2, 0, 3, 1}, "+x\n"), "2", "", "3", "+ x\n"},
		{"three come", samples.Hunk([4]int{2, 0, 3, 3}, "+x\n", "+\n", "+y\n"), "2", "", "3,5", "+ x\n+ \n+ y\n"},
		{"all goes", samples.Hunk([4]int{1, 1, 0, 0}, "-x\n"), "1", "- x\n", "0", ""},
		{"all comes", samples.Hunk([4]int{0, 0, 1, 1}, "+x\n"), "0", "", "1", "+ x\n"},
		{"one for one", samples.Hunk([4]int{1, 1, 1, 1}, "-x\n", "+y\n"), "1", "! x\n", "1", "! y\n"},
		{"two for one", samples.Hunk([4]int{1, 2, 1, 1}, "-x\n", "-y\n", "+z\n"), "1,2", "! x\n! y\n", "1", "! z\n"},
		{"one for three", samples.Hunk([4]int{7, 1, 5, 3}, "-x\n", "+y\n", "+z\n", "+x\n"), "7", "! x\n", "5,7", "! y\n! z\n! x\n"},
		{"one goes between kept ones", samples.Hunk([4]int{1, 3, 1, 2}, " 1\n", "-x\n", " 3\n"), "1,3", "  1\n- x\n  3\n", "1,2", ""},
		{"one comes between kept ones", samples.Hunk([4]int{1, 2, 1, 3}, " 1\n", "+x\n", " 3\n"), "1,2", "", "1,3", "  1\n+ x\n  3\n"},
		{"one goes ahead of a kept one", samples.Hunk([4]int{1, 2, 1, 1}, "-x\n", " 3\n"), "1,2", "- x\n  3\n", "1", ""},
		{"one comes behind a kept one", samples.Hunk([4]int{9, 1, 8, 2}, " 1\n", "+x\n"), "9", "", "8,9", "  1\n+ x\n"},
		{"one goes, one comes, apart", samples.Hunk([4]int{1, 2, 1, 2}, "-x\n", " 1\n", "+y\n"), "1,2", "- x\n  1\n", "1,2", "  1\n+ y\n"},
		{"one comes, one goes, apart", samples.Hunk([4]int{1, 2, 1, 2}, "+x\n", " 1\n", "-y\n"), "1,2", "  1\n- y\n", "1,2", "+ x\n  1\n"},
		{"pieces of all kinds", samples.Hunk([4]int{1, 7, 1, 6}, "-a\n", " 1\n", "-b\n", "-c\n", "+d\n", " 2\n", "+e\n", " 3\n", "-f\n", "+g\n"), "1,7", "- a\n  1\n! b\n! c\n  2\n  3\n! f\n", "1,6", "  1\n! d\n  2\n+ e\n  3\n! g\n"},
		{"two pieces that go", samples.Hunk([4]int{1, 3, 1, 1}, "-a\n", " 1\n", "-b\n"), "1,3", "- a\n  1\n- b\n", "1", ""},
		{"the old one lacks its feed, and goes", samples.Hunk([4]int{2, 1, 1, 0}, "-x"), "2", "- x\n" + noFeed, "1", ""},
		{"the new one lacks its feed, and comes", samples.Hunk([4]int{1, 0, 2, 1}, "+x"), "1", "", "2", "+ x\n" + noFeed},
		{"the old one alone lacks its feed", samples.Hunk([4]int{1, 1, 1, 1}, "-x", "+x\n"), "1", "! x\n" + noFeed, "1", "! x\n"},
		{"the new one alone lacks its feed", samples.Hunk([4]int{1, 1, 1, 1}, "-x\n", "+x"), "1", "! x\n", "1", "! x\n" + noFeed},
		{"both lack their feeds", samples.Hunk([4]int{1, 2, 1, 2}, "-u\n", "-x", "+v\n", "+y"), "1,2", "! u\n! x\n" + noFeed, "1,2", "! v\n! y\n" + noFeed},
		{"one that is kept lacks its feed, one goes", samples.Hunk([4]int{1, 2, 1, 1}, "-x\n", " y"), "1,2", "- x\n  y\n" + noFeed, "1", ""},
		{"one that is kept lacks its feed, one comes", samples.Hunk([4]int{1, 1, 1, 2}, "+x\n", " y"), "1", "", "1,2", "+ x\n  y\n" + noFeed},
		{"one that is kept lacks its feed, one is changed", samples.Hunk([4]int{1, 2, 1, 2}, "-x\n", "+z\n", " y"), "1,2", "! x\n  y\n" + noFeed, "1,2", "! z\n  y\n" + noFeed},
		{"the new one lacks its feed, the one kept ahead does not", samples.Hunk([4]int{1, 1, 1, 2}, " x\n", "+y"), "1", "", "1,2", "  x\n+ y\n" + noFeed},
		{"the old one lacks its feed, the new one is the one ahead", samples.Hunk([4]int{1, 2, 1, 1}, " x\n", "-y"), "1,2", "  x\n- y\n" + noFeed, "1", ""},
		{"lines that look like the form", samples.Hunk([4]int{1, 4, 1, 4}, " *** 1 ****\n", "---- 1 ----\n", "-"+noFeed, "+***************\n", "+- x\n", " ! y\n"), "1,4", "  *** 1 ****\n! --- 1 ----\n! " + noFeed + "  ! y\n", "1,4", "  *** 1 ****\n! ***************\n! - x\n  ! y\n"},
		{"the mark as a line, without its feed", samples.Hunk([4]int{1, 1, 0, 0}, "-"+strings.TrimSuffix(noFeed, "\n")), "1", "- " + noFeed + noFeed, "0", ""},
		{"lines of any bytes", samples.Hunk([4]int{1, 3, 1, 3}, "  \n", "-\x00\xff\n", "+\t\r\n", " \xc3\x28\n"), "1,3", "   \n! \x00\xff\n  \xc3\x28\n", "1,3", "   \n! \t\r\n  \xc3\x28\n"},
		{"numbers of several digits", samples.Hunk([4]int{99, 2, 1000, 1}, "-x\n", " y\n"), "99,100", "- x\n  y\n", "1000", ""},
		{"the greatest numbers", samples.Hunk([4]int{top, 1, top, 0}, "-x\n"), "2147483647", "- x\n", "2147483647", ""},
		{"the greatest numbers, of two lines", samples.Hunk([4]int{top - 1, 2, top - 2, 3}, " x\n", "+y\n", " z\n"), "2147483646,2147483647", "", "2147483645,2147483647", "  x\n+ y\n  z\n"},
	}
}

func TestPrintOfHunks(t *testing.T) {
	var l []api.Hunk
	var text strings.Builder
	for _, c := range formCases() {
		t.Run(c.name, func(t *testing.T) {
			checkPrint(t, patchOf(c.hunk), names+c.text(), api.OK)
			checkPrint(t, patchOf(c.hunk, c.hunk), names+c.text()+c.text(), api.OK)
			checkPrintByWords(t, patchOf(c.hunk))
		})
		l = append(l, c.hunk)
		text.WriteString(c.text())
	}
	checkPrint(t, patchOf(l...), names+text.String(), api.OK)
}

// Which line of a piece stands first says nothing of its signs, nor of the order of old lines, and of new ones.
func TestPrintOfPiecesInAnyOrder(t *testing.T) {
	for _, c := range []struct {
		name string
		hunk api.Hunk
		want string
	}{
		{"what comes stands first", samples.Hunk([4]int{1, 1, 1, 1}, "+y\n", "-x\n"), hunkText("1", "! x\n", "1", "! y\n")},
		{"in turns", samples.Hunk([4]int{1, 2, 1, 2}, "-a\n", "+b\n", "-c\n", "+d\n"), hunkText("1,2", "! a\n! c\n", "1,2", "! b\n! d\n")},
		{"one comes in the middle", samples.Hunk([4]int{1, 4, 1, 3}, " 1\n", "-a\n", "+b\n", "-c\n", " 2\n"), hunkText("1,4", "  1\n! a\n! c\n  2\n", "1,3", "  1\n! b\n  2\n")},
		{"one lacks its feed, and the last of the others stands behind it", samples.Hunk([4]int{1, 1, 1, 2}, "-a", "+b\n", "+c\n"), hunkText("1", "! a\n"+noFeed, "1,2", "! b\n! c\n")},
		{"one that comes lacks its feed, and stands first", samples.Hunk([4]int{1, 2, 1, 1}, "+b", "-a\n", "-c\n"), hunkText("1,2", "! a\n! c\n", "1", "! b\n"+noFeed)},
	} {
		t.Run(c.name, func(t *testing.T) { checkPrint(t, patchOf(c.hunk), names+c.want, api.OK) })
	}
}

// A range goes up to the last line's number, be that greater than any number that is read.
func TestPrintOfRangesThatEndAboveTheGreatestNumber(t *testing.T) {
	const top = api.MaxNumber
	h := samples.Hunk([4]int{top, 2, top, 3}, " x\n", "+y\n", " z\n")
	checkPrint(t, patchOf(h), names+hunkText("2147483647,2147483648", "", "2147483647,2147483649", "  x\n+ y\n  z\n"), api.OK)
}

func TestPrintOfNoHunks(t *testing.T) {
	long := strings.Repeat("x", api.MaxName)
	for _, p := range []api.Patch{{}, {Hunks: []api.Hunk{}}, {Old: "a", New: "b"}, {Old: "a b", New: "\x00\xff\""}, {Old: long, New: long}} {
		checkPrint(t, p, "", api.OK)
	}
	checkPrint(t, api.Patch{Old: long + "x", New: "b"}, "", api.ErrName)
	checkPrint(t, api.Patch{Old: "a", New: long + "x"}, "", api.ErrName)
}

func TestPrintOfNames(t *testing.T) {
	h := samples.Hunk([4]int{1, 1, 0, 0}, "-x\n")
	text := hunkText("1", "- x\n", "0", "")
	for _, c := range samples.FileNames() {
		checkPrint(t, api.Patch{Old: c.Name, New: "b", Hunks: []api.Hunk{h}}, "*** "+c.Text+"\n--- b\n"+text, api.OK)
		checkPrint(t, api.Patch{Old: "a", New: c.Name, Hunks: []api.Hunk{h}}, "*** a\n--- "+c.Text+"\n"+text, api.OK)
		checkPrint(t, api.Patch{Old: c.Name, New: c.Name, Hunks: []api.Hunk{h}}, "*** "+c.Text+"\n--- "+c.Text+"\n"+text, api.OK)
	}
}

func TestPrintOfNamesThatAreTooLong(t *testing.T) {
	h := samples.Hunk([4]int{1, 1, 0, 0}, "-x\n")
	for _, name := range []string{strings.Repeat("x", api.MaxName+1), strings.Repeat(" ", api.MaxName+1), strings.Repeat("ä", api.MaxName/2) + "x", strings.Repeat("x", 1<<20)} {
		checkPrint(t, api.Patch{Old: name, New: "b", Hunks: []api.Hunk{h}}, "", api.ErrName)
		checkPrint(t, api.Patch{Old: "a", New: name, Hunks: []api.Hunk{h}}, "", api.ErrName)
		checkPrint(t, api.Patch{Old: name, New: name, Hunks: []api.Hunk{h}}, "", api.ErrName)
		checkPrint(t, api.Patch{Old: "", New: name, Hunks: []api.Hunk{h}}, "", api.ErrName)
	}
}

func TestPrintOfWrongHunks(t *testing.T) {
	right := samples.Hunk([4]int{1, 1, 0, 0}, "-x\n")
	long := strings.Repeat("x", api.MaxName+1)
	for _, c := range samples.WrongHunks() {
		if code := hunks.Check(c.Hunk); code != c.Err {
			t.Fatalf("%s is wrong by %d, not by %d", told(c.Hunk), code, c.Err)
		}
		checkPrint(t, patchOf(c.Hunk), "", c.Err)
		checkPrint(t, patchOf(right, c.Hunk), "", c.Err)
		checkPrint(t, patchOf(c.Hunk, right), "", c.Err)
		checkPrint(t, patchOf(right, right, c.Hunk, right), "", c.Err)
		checkPrint(t, api.Patch{Hunks: []api.Hunk{c.Hunk}}, "", c.Err)
		checkPrint(t, api.Patch{Old: long, New: "b", Hunks: []api.Hunk{c.Hunk}}, "", api.ErrName)
		checkPrint(t, api.Patch{Old: "a", New: long, Hunks: []api.Hunk{right, c.Hunk}}, "", api.ErrName)
		for _, other := range samples.WrongHunks() {
			checkPrint(t, patchOf(c.Hunk, other.Hunk), "", c.Err)
		}
	}
}

// manyHunks is a hunk so many times.
func manyHunks(h api.Hunk, n int) []api.Hunk { return slices.Repeat([]api.Hunk{h}, n) }

func TestPrintOfAsManyHunksAsMayBe(t *testing.T) {
	h := samples.Hunk([4]int{1, 1, 0, 0}, "-x\n")
	l := manyHunks(h, api.MaxHunks+1)
	checkPrint(t, patchOf(l[1:]...), names+strings.Repeat(hunkText("1", "- x\n", "0", ""), api.MaxHunks), api.OK)
	checkPrint(t, patchOf(l...), "", api.ErrLong)
	checkPrint(t, patchOf(manyHunks(h, 3*api.MaxHunks)...), "", api.ErrLong)
	checkPrint(t, patchOf(manyHunks(api.Hunk{}, api.MaxHunks+1)...), "", api.ErrLong)
	checkPrint(t, patchOf(manyHunks(api.Hunk{A: -1}, api.MaxHunks)...), "", api.ErrRange)
	checkPrint(t, api.Patch{Old: strings.Repeat("x", api.MaxName+1), Hunks: l}, "", api.ErrName)
	l[api.MaxHunks] = api.Hunk{A: -1}
	checkPrint(t, patchOf(l[1:]...), "", api.ErrRange)
	checkPrint(t, patchOf(l...), "", api.ErrLong)
}

func TestPrintOfAllShortHunks(t *testing.T) {
	right, wrong := 0, 0
	samples.Texts(" -+", 7, func(signs string) {
		samples.Ends(samples.SignedHunk(signs), func(h api.Hunk) {
			checkPrintByWords(t, patchOf(h))
			if hunks.Check(h) == api.OK {
				right++
			} else {
				wrong++
			}
		})
	})
	if right < 5000 || wrong < 1000 {
		t.Errorf("%d are right, %d are wrong", right, wrong)
	}
}

// Names and the number of hunks alone are limited: there may be more lines, and longer ones, than may be read.
func TestPrintHasNoLimitOfLines(t *testing.T) {
	long := strings.Repeat("x", 2*api.MaxText)
	h := samples.Hunk([4]int{1, 1, 1, 1}, "-"+long, "+"+long+"\n")
	checkPrint(t, patchOf(h), names+hunkText("1", "! "+long+"\n"+noFeed, "1", "! "+long+"\n"), api.OK)
	const n = 5 * api.MaxLines
	for _, c := range []struct {
		marks     []api.Mark
		old, made string
	}{
		{samples.Marks("-x\n"), "- x\n", ""},
		{samples.Marks("+x\n"), "", "+ x\n"},
		{samples.Marks("-x\n", "+y\n"), "! x\n", "! y\n"},
		{samples.Marks(" x\n", "-y\n"), "  x\n- y\n", ""},
		{samples.Marks("+x\n", " y\n"), "", "+ x\n  y\n"},
		{samples.Marks("+x\n", "-z\n", " y\n"), "! z\n  y\n", "! x\n  y\n"},
		{samples.Marks("+x\n", " y\n", "-z\n", " y\n"), "  y\n- z\n  y\n", "+ x\n  y\n  y\n"},
	} {
		h := api.Hunk{A: 1, B: 1, Lines: slices.Repeat(c.marks, n)}
		h.AN, h.BN = len(hunks.Old(h)), len(hunks.New(h))
		want := hunkText(rangeByWords(1, h.AN), strings.Repeat(c.old, n), rangeByWords(1, h.BN), strings.Repeat(c.made, n))
		checkPrint(t, patchOf(h), names+want, api.OK)
	}
}

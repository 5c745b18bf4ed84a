package unified_test

import (
	"fmt"
	"slices"
	"strings"
	"testing"

	"redline/api"
	"redline/hunks"
	"redline/samples"
	"redline/unified"
)

const (
	noFeed = "\\ No newline at end of file\n" // the mark, as chapter 12 writes it
	names  = "--- a\n+++ b\n"                 // the names of what patchOf makes
)

// told is something as it is told, of a long one its beginning.
func told(x any) string {
	return fmt.Sprintf("%.400s", fmt.Sprintf("%+q", x))
}

// patchOf is a patch from a to b of hunks.
func patchOf(l ...api.Hunk) api.Patch { return api.Patch{Old: "a", New: "b", Hunks: l} }

// hunkText is the text of a hunk out of its counts and of its lines as they stand there.
func hunkText(old, made string, lines ...string) string {
	return "@@ -" + old + " +" + made + " @@\n" + strings.Join(lines, "")
}

// checkPrint holds Print against what it must answer.
func checkPrint(t *testing.T, p api.Patch, want string, code api.Errno) {
	t.Helper()
	if s, err := unified.Print(p); s != want || err != code {
		t.Errorf("%s: %s, %d, want %s, %d", told(p), told(s), err, told(want), code)
	}
}

// countByWords is a count of lines, by the chapter's words.
func countByWords(p, n int) string {
	if n == 1 {
		return fmt.Sprint(p)
	}
	return fmt.Sprintf("%d,%d", p, n)
}

// printByWords is what Print must answer of any patch, by the chapter's words alone.
func printByWords(p api.Patch) (string, api.Errno) {
	if len(p.Old) > 64 || len(p.New) > 64 {
		return "", api.ErrName
	}
	if len(p.Hunks) > 4096 {
		return "", api.ErrLong
	}
	var s strings.Builder
	for i, h := range p.Hunks {
		if err := hunks.Check(h); err != api.OK {
			return "", err
		}
		if i == 0 {
			fmt.Fprintf(&s, "--- %s\n+++ %s\n", samples.NameText(p.Old), samples.NameText(p.New))
		}
		fmt.Fprintf(&s, "@@ -%s +%s @@\n", countByWords(h.A, h.AN), countByWords(h.B, h.BN))
		for _, m := range h.Lines {
			fmt.Fprintf(&s, "%c%s\n", m.Sign, strings.TrimSuffix(m.Text, "\n"))
			if !strings.HasSuffix(m.Text, "\n") {
				s.WriteString(noFeed)
			}
		}
	}
	return s.String(), api.OK
}

// checkPrintByWords holds Print against the chapter's words.
func checkPrintByWords(t *testing.T, p api.Patch) {
	t.Helper()
	want, code := printByWords(p)
	checkPrint(t, p, want, code)
}

// Promise 16.2.

func TestPrintOfTheChaptersExample(t *testing.T) {
	h := samples.Hunk([4]int{1, 2, 1, 1}, " 1\n", "-2")
	checkPrint(t, patchOf(h), "--- a\n+++ b\n@@ -1,2 +1 @@\n 1\n-2\n\\ No newline at end of file\n", api.OK)
}

// formCase is a hunk and its text.
type formCase struct {
	name string
	hunk api.Hunk
	text string
}

// formCases are hunks of all kinds.
func formCases() []formCase {
	const top = api.MaxNumber
	return []formCase{
		{"one goes", samples.Hunk([4]int{3, 1, 2, 0}, "-x\n"), "@@ -3 +2,0 @@\n-x\n"},
		{"two go", samples.Hunk([4]int{3, 2, 2, 0}, "-x\n", "-y\n"), "@@ -3,2 +2,0 @@\n-x\n-y\n"},
		{"one comes", samples.Hunk([4]int{2, 0, 3, 1}, "+x\n"), "@@ -2,0 +3 @@\n+x\n"},
		{"three come", samples.Hunk([4]int{2, 0, 3, 3}, "+x\n", "+\n", "+y\n"), "@@ -2,0 +3,3 @@\n+x\n+\n+y\n"},
		{"all goes", samples.Hunk([4]int{1, 1, 0, 0}, "-x\n"), "@@ -1 +0,0 @@\n-x\n"},
		{"all comes", samples.Hunk([4]int{0, 0, 1, 1}, "+x\n"), "@@ -0,0 +1 @@\n+x\n"},
		{"one for one", samples.Hunk([4]int{1, 1, 1, 1}, "-x\n", "+y\n"), "@@ -1 +1 @@\n-x\n+y\n"},
		{"the same for the same", samples.Hunk([4]int{1, 1, 1, 1}, "-x\n", "+x\n"), "@@ -1 +1 @@\n-x\n+x\n"},
		{"what comes stands first", samples.Hunk([4]int{1, 1, 1, 1}, "+y\n", "-x\n"), "@@ -1 +1 @@\n+y\n-x\n"},
		{"in turns", samples.Hunk([4]int{1, 2, 1, 2}, "-a\n", "+b\n", "-c\n", "+d\n"), "@@ -1,2 +1,2 @@\n-a\n+b\n-c\n+d\n"},
		{"two for one", samples.Hunk([4]int{1, 2, 1, 1}, "-x\n", "-y\n", "+z\n"), "@@ -1,2 +1 @@\n-x\n-y\n+z\n"},
		{"one for three", samples.Hunk([4]int{7, 1, 5, 3}, "-x\n", "+y\n", "+z\n", "+x\n"), "@@ -7 +5,3 @@\n-x\n+y\n+z\n+x\n"},
		{"one goes between kept ones", samples.Hunk([4]int{1, 3, 1, 2}, " 1\n", "-x\n", " 3\n"), "@@ -1,3 +1,2 @@\n 1\n-x\n 3\n"},
		{"one comes between kept ones", samples.Hunk([4]int{1, 2, 1, 3}, " 1\n", "+x\n", " 3\n"), "@@ -1,2 +1,3 @@\n 1\n+x\n 3\n"},
		{"one comes behind a kept one", samples.Hunk([4]int{9, 1, 8, 2}, " 1\n", "+x\n"), "@@ -9 +8,2 @@\n 1\n+x\n"},
		{"lines that are empty", samples.Hunk([4]int{1, 3, 1, 3}, " \n", "-\n", "+\n", " \n"), "@@ -1,3 +1,3 @@\n \n-\n+\n \n"},
		{"pieces of all kinds", samples.Hunk([4]int{1, 7, 1, 6}, "-a\n", " 1\n", "-b\n", "-c\n", "+d\n", " 2\n", "+e\n", " 3\n", "-f\n", "+g\n"), "@@ -1,7 +1,6 @@\n-a\n 1\n-b\n-c\n+d\n 2\n+e\n 3\n-f\n+g\n"},
		{"the old one lacks its feed, and goes", samples.Hunk([4]int{2, 1, 1, 0}, "-x"), "@@ -2 +1,0 @@\n-x\n" + noFeed},
		{"the new one lacks its feed, and comes", samples.Hunk([4]int{1, 0, 2, 1}, "+x"), "@@ -1,0 +2 @@\n+x\n" + noFeed},
		{"the old one alone lacks its feed", samples.Hunk([4]int{1, 1, 1, 1}, "-x", "+x\n"), "@@ -1 +1 @@\n-x\n" + noFeed + "+x\n"},
		{"the new one alone lacks its feed", samples.Hunk([4]int{1, 1, 1, 1}, "-x\n", "+x"), "@@ -1 +1 @@\n-x\n+x\n" + noFeed},
		{"both lack their feeds", samples.Hunk([4]int{1, 2, 1, 2}, "-u\n", "-x", "+v\n", "+y"), "@@ -1,2 +1,2 @@\n-u\n-x\n" + noFeed + "+v\n+y\n" + noFeed},
		{"both lack their feeds, what comes stands first", samples.Hunk([4]int{1, 1, 1, 1}, "+y", "-x"), "@@ -1 +1 @@\n+y\n" + noFeed + "-x\n" + noFeed},
		{"one that is kept lacks its feed", samples.Hunk([4]int{1, 2, 1, 1}, "-x\n", " y"), "@@ -1,2 +1 @@\n-x\n y\n" + noFeed},
		{"the old one lacks its feed, and others come behind it", samples.Hunk([4]int{1, 2, 1, 3}, " x\n", "-y", "+y\n", "+z\n"), "@@ -1,2 +1,3 @@\n x\n-y\n" + noFeed + "+y\n+z\n"},
		{"lines that look like the form", samples.Hunk([4]int{1, 5, 1, 4}, " @@ -1 +1 @@\n", "--- a\n", "-++ b\n", "-"+noFeed, "+++ b\n", "+@@\n", " +x\n"), "@@ -1,5 +1,4 @@\n @@ -1 +1 @@\n--- a\n-++ b\n-" + noFeed + "+++ b\n+@@\n +x\n"},
		{"names as lines", samples.Hunk([4]int{1, 1, 1, 1}, "--- a\n", "+++ b\n"), "@@ -1 +1 @@\n--- a\n+++ b\n"},
		{"the mark as a line, without its feed", samples.Hunk([4]int{1, 1, 0, 0}, "-"+strings.TrimSuffix(noFeed, "\n")), "@@ -1 +0,0 @@\n-" + noFeed + noFeed},
		{"lines of any bytes", samples.Hunk([4]int{1, 3, 1, 3}, "  \n", "-\x00\xff\n", "+\t\r\n", " \xc3\x28\n"), "@@ -1,3 +1,3 @@\n  \n-\x00\xff\n+\t\r\n \xc3\x28\n"},
		{"numbers of several digits", samples.Hunk([4]int{99, 2, 1000, 1}, "-x\n", " y\n"), "@@ -99,2 +1000 @@\n-x\n y\n"},
		{"the greatest numbers", samples.Hunk([4]int{top, 1, top, 0}, "-x\n"), "@@ -2147483647 +2147483647,0 @@\n-x\n"},
		{"the greatest numbers, of more lines than fit behind", samples.Hunk([4]int{top, 2, top, 3}, " x\n", "+y\n", " z\n"), "@@ -2147483647,2 +2147483647,3 @@\n x\n+y\n z\n"},
	}
}

func TestPrintOfHunks(t *testing.T) {
	var l []api.Hunk
	var text strings.Builder
	for _, c := range formCases() {
		t.Run(c.name, func(t *testing.T) {
			checkPrint(t, patchOf(c.hunk), names+c.text, api.OK)
			checkPrint(t, patchOf(c.hunk, c.hunk), names+c.text+c.text, api.OK)
			checkPrintByWords(t, patchOf(c.hunk))
		})
		l = append(l, c.hunk)
		text.WriteString(c.text)
	}
	checkPrint(t, patchOf(l...), names+text.String(), api.OK)
}

func TestPrintOfNoHunks(t *testing.T) {
	long := strings.Repeat("x", api.MaxName)
	for _, p := range []api.Patch{{}, {Hunks: []api.Hunk{}}, {Old: "a", New: "b"}, {Old: "a b", New: "\x00\xff\""}, {Old: long, New: long}} {
		checkPrint(t, p, "", api.OK)
	}
	checkPrint(t, api.Patch{Old: long + "x", New: "b"}, "", api.ErrName)
	checkPrint(t, api.Patch{Old: "a", New: long + "x"}, "", api.ErrName)
}

func TestPrintOfNames(t *testing.T) {
	h := samples.SignedHunk("-")
	text := "@@ -1 +0,0 @@\n-line 0\n"
	for _, c := range samples.FileNames() {
		checkPrint(t, api.Patch{Old: c.Name, New: "b", Hunks: []api.Hunk{h}}, "--- "+c.Text+"\n+++ b\n"+text, api.OK)
		checkPrint(t, api.Patch{Old: "a", New: c.Name, Hunks: []api.Hunk{h}}, "--- a\n+++ "+c.Text+"\n"+text, api.OK)
		checkPrint(t, api.Patch{Old: c.Name, New: c.Name, Hunks: []api.Hunk{h}}, "--- "+c.Text+"\n+++ "+c.Text+"\n"+text, api.OK)
	}
}

func TestPrintOfNamesThatAreTooLong(t *testing.T) {
	l := []api.Hunk{samples.SignedHunk("-")}
	for _, name := range []string{strings.Repeat("x", api.MaxName+1), strings.Repeat(" ", api.MaxName+1), strings.Repeat("ä", api.MaxName/2) + "x", strings.Repeat("x", 1<<20)} {
		checkPrint(t, api.Patch{Old: name, New: "b", Hunks: l}, "", api.ErrName)
		checkPrint(t, api.Patch{Old: "a", New: name, Hunks: l}, "", api.ErrName)
		checkPrint(t, api.Patch{Old: name, New: name, Hunks: l}, "", api.ErrName)
		checkPrint(t, api.Patch{Old: "", New: name, Hunks: l}, "", api.ErrName)
	}
}

func TestPrintOfWrongHunks(t *testing.T) {
	right := samples.SignedHunk("-")
	long := strings.Repeat("x", api.MaxName+1)
	for _, c := range samples.WrongHunks() {
		checkPrint(t, patchOf(c.Hunk), "", c.Err)
		checkPrint(t, patchOf(right, c.Hunk), "", c.Err)
		checkPrint(t, patchOf(c.Hunk, right), "", c.Err)
		checkPrint(t, patchOf(right, right, c.Hunk, right), "", c.Err)
		checkPrint(t, api.Patch{Hunks: []api.Hunk{c.Hunk}}, "", c.Err)
		checkPrint(t, api.Patch{Old: long, New: "b", Hunks: []api.Hunk{c.Hunk}}, "", api.ErrName)
		checkPrint(t, api.Patch{Old: "a", New: long, Hunks: []api.Hunk{right, c.Hunk}}, "", api.ErrName)
		for _, other := range samples.WrongHunks() {
			checkPrint(t, patchOf(c.Hunk, other.Hunk), "", c.Err)
		}
	}
}

// manyHunks is a hunk so many times.
func manyHunks(h api.Hunk, n int) []api.Hunk { return slices.Repeat([]api.Hunk{h}, n) }

func TestPrintOfAsManyHunksAsMayBe(t *testing.T) {
	l := manyHunks(gone(), api.MaxHunks+1)
	checkPrint(t, patchOf(l[1:]...), names+strings.Repeat(goes, api.MaxHunks), api.OK)
	checkPrint(t, patchOf(l...), "", api.ErrLong)
	checkPrint(t, patchOf(manyHunks(gone(), 3*api.MaxHunks)...), "", api.ErrLong)
	checkPrint(t, patchOf(manyHunks(api.Hunk{}, api.MaxHunks+1)...), "", api.ErrLong)
	checkPrint(t, patchOf(manyHunks(api.Hunk{A: -1}, api.MaxHunks)...), "", api.ErrRange)
	checkPrint(t, api.Patch{Old: strings.Repeat("x", api.MaxName+1), Hunks: l}, "", api.ErrName)
	l[api.MaxHunks] = api.Hunk{A: -1}
	checkPrint(t, patchOf(l[1:]...), "", api.ErrRange)
	checkPrint(t, patchOf(l...), "", api.ErrLong)
}

func TestPrintOfAllShortHunks(t *testing.T) {
	right, wrong := 0, 0
	samples.Texts(" -+", 7, func(signs string) {
		samples.Ends(samples.SignedHunk(signs), func(h api.Hunk) {
			checkPrintByWords(t, patchOf(h))
			if hunks.Check(h) == api.OK {
				right++
			} else {
				wrong++
			}
		})
	})
	if right < 5000 || wrong < 1000 {
		t.Errorf("%d are right, %d are wrong", right, wrong)
	}
}

// Names and the number of hunks alone are limited: there may be more lines, and longer ones, than may be read.
func TestPrintHasNoLimitOfLines(t *testing.T) {
	long := strings.Repeat("x", 2*api.MaxText)
	h := samples.Hunk([4]int{1, 1, 1, 1}, "-"+long, "+"+long+"\n")
	checkPrint(t, patchOf(h), names+hunkText("1", "1", "-"+long+"\n"+noFeed, "+"+long+"\n"), api.OK)
	const n = 5 * api.MaxLines
	for _, c := range []struct {
		signs     string
		old, made int
	}{{"-", n, 0}, {"+", 0, n}, {"-+", n, n}, {" -", 2 * n, n}, {"+ ", n, 2 * n}, {"+ - ", 3 * n, 3 * n}} {
		h := samples.SignedHunk(strings.Repeat(c.signs, n))
		if h.AN != c.old || h.BN != c.made {
			t.Fatalf("%q: %d and %d lines", c.signs, h.AN, h.BN)
		}
		checkPrintByWords(t, patchOf(h))
	}
}

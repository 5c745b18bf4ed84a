package patchset_test

import (
	"slices"
	"strings"
	"testing"

	"redline/api"
	"redline/samples"
)

// Promise 18.2.

const (
	unifiedNames = "--- a\n+++ b\n"
	unifiedGoes  = "@@ -1 +0,0 @@\n-x\n" // a hunk as short as it may be
	contextNames = "*** a\n--- b\n"
	contextStars = "***************\n"
	contextGoes  = contextStars + "*** 1 ****\n- x\n--- 0 ----\n"
	normalGoes   = "1d0\n< x\n"
)

// gone is what each of the three short hunks says.
func gone() api.Hunk { return samples.Hunk([4]int{1, 1, 0, 0}, "-x\n") }

// patchOf is a patch from a to b of hunks, and nameless one that says no names.
func patchOf(l ...api.Hunk) api.Patch { return api.Patch{Old: "a", New: "b", Hunks: l} }

func nameless(l ...api.Hunk) api.Patch { return api.Patch{Hunks: l} }

// rightText is a text without remarks, its form, and its patches.
type rightText struct {
	name string
	text string
	form int
	want []api.Patch
}

// rightTexts are some of each form.
func rightTexts() []rightText {
	both := samples.Hunk([4]int{1, 3, 1, 3}, " 1\n", "-2\n", "+x\n", " 3\n")
	ends := samples.Hunk([4]int{7, 1, 7, 1}, "-y", "+z")
	return []rightText{
		{"unified, one hunk", unifiedNames + unifiedGoes, api.FUnified, []api.Patch{patchOf(gone())}},
		{"unified, several hunks", unifiedNames + "@@ -1,3 +1,3 @@ f()\n 1\n-2\n+x\n 3\n@@ -7 +7 @@\n-y\n" + noFeed + "+z\n" + noFeed, api.FUnified, []api.Patch{patchOf(both, ends)}},
		{"unified, several patches", unifiedNames + unifiedGoes + unifiedGoes + "--- \"c d\"\n+++ /dev/null\n" + unifiedGoes + "--- /dev/null\n+++ e\n" + unifiedGoes, api.FUnified, []api.Patch{
			patchOf(gone(), gone()), {Old: "c d", Hunks: []api.Hunk{gone()}}, {New: "e", Hunks: []api.Hunk{gone()}},
		}},
		{"unified, lines that look like remarks behind their signs", unifiedNames + "@@ -1,4 +1,4 @@\n a\n-\n+=\n #\n-Z\n+diff a b\n", api.FUnified, []api.Patch{
			patchOf(samples.Hunk([4]int{1, 4, 1, 4}, " a\n", "-\n", "+=\n", " #\n", "-Z\n", "+diff a b\n")),
		}},
		{"context, one hunk", contextNames + contextGoes, api.FContext, []api.Patch{patchOf(gone())}},
		{"context, several hunks", contextNames + contextStars + "*** 1,3 ****\n  1\n! 2\n  3\n--- 1,3 ----\n  1\n! x\n  3\n" + "*************** f()\n*** 7 ****\n! y\n" + noFeed + "--- 7 ----\n! z\n" + noFeed, api.FContext, []api.Patch{patchOf(both, ends)}},
		{"context, several patches", contextNames + contextGoes + contextGoes + "*** \"c d\"\n--- /dev/null\n" + contextGoes + "*** /dev/null\n--- e\n" + contextGoes, api.FContext, []api.Patch{
			patchOf(gone(), gone()), {Old: "c d", Hunks: []api.Hunk{gone()}}, {New: "e", Hunks: []api.Hunk{gone()}},
		}},
		{"context, lines that look like remarks behind their signs", contextNames + contextStars + "*** 1,3 ****\n  a\n! \n  #\n--- 1,3 ----\n  a\n! =\n  #\n", api.FContext, []api.Patch{
			patchOf(samples.Hunk([4]int{1, 3, 1, 3}, " a\n", "-\n", "+=\n", " #\n")),
		}},
		{"normal, one change", normalGoes, api.FNormal, []api.Patch{nameless(gone())}},
		{"normal, several changes", "2c2\n< 2\n---\n> x\n4a5,6\n> a\n> \n9d11\n< =\n" + noFeed, api.FNormal, []api.Patch{
			nameless(samples.Hunk([4]int{2, 1, 2, 1}, "-2\n", "+x\n"), samples.Hunk([4]int{4, 0, 5, 2}, "+a\n", "+\n"), samples.Hunk([4]int{9, 1, 11, 0}, "-=")),
		}},
	}
}

func TestParseOfTheChaptersExamples(t *testing.T) {
	checkParse(t, "diff -u a b\n--- a\n+++ b\n@@ -1 +1 @@\n-x\n+y\n", []api.Patch{patchOf(samples.Hunk([4]int{1, 1, 1, 1}, "-x\n", "+y\n"))}, api.FUnified)
	checkFault(t, "diff -u a b\n--- a\n+z\n@@ -1 +1 @@\n-x\n+y\n", 3, api.ErrText)
	checkFault(t, "@@\n", 1, api.ErrFormat)
	checkParse(t, "", nil, 0)
}

// gaps hands over a text with remarks put in at each place between its lines, one by one, and at all at once, and how many lines are put in at each place; behind a last line without its line feed there is no place.
func gaps(text string, do func(text string, put []int)) {
	l := slices.Collect(strings.Lines(text))
	places := len(l) + 1
	if text != "" && !strings.HasSuffix(text, "\n") {
		places--
	}
	all := remarks()
	put := func(counts []int) {
		var s strings.Builder
		next := 0
		for i := range len(l) + 1 {
			if i < places {
				for range counts[i] {
					s.WriteString(all[next%len(all)])
					next++
				}
			}
			if i < len(l) {
				s.WriteString(l[i])
			}
		}
		do(s.String(), counts)
	}
	none := make([]int, len(l)+1)
	put(none)
	for i := range places {
		for _, n := range []int{1, 2, len(all)} {
			counts := slices.Clone(none)
			counts[i] = n
			put(counts)
		}
	}
	for _, n := range []int{1, 2, 7} {
		put(slices.Repeat([]int{n}, places))
		rising := samples.Count(n, places)
		put(rising)
		put(samples.Turned(rising))
	}
}

func TestParseOfRightTextsWithRemarks(t *testing.T) {
	for _, c := range rightTexts() {
		t.Run(c.name, func(t *testing.T) {
			checkParse(t, c.text, c.want, c.form)
			gaps(c.text, func(text string, _ []int) {
				checkParse(t, text, c.want, c.form)
				checkByWords(t, text)
				checkParse(t, text+"x", c.want, c.form) // a last remark that lacks its line feed
				checkParse(t, text+"=", c.want, c.form)
			})
			for _, r := range remarks() {
				checkParse(t, r+strings.ReplaceAll(c.text, "\n", "\n"+r), c.want, c.form)
			}
		})
	}
}

// What is no remark stays, wherever it stands, and is what is wrong then.
func TestParseOfLinesThatAreNoRemarks(t *testing.T) {
	for _, c := range rightTexts() {
		n := strings.Count(c.text, "\n")
		for i := range 256 {
			line := string([]byte{byte(i)}) + "\n"
			if remark.MatchString(line) || i == '\n' {
				continue
			}
			checkByWords(t, line+c.text)
			checkByWords(t, c.text+line)
			checkByWords(t, c.text+line[:1])
			if !strings.ContainsAny(line, " -+!0123456789") {
				checkFault(t, line+c.text, 1, api.ErrFormat)
				checkFault(t, "a\n\n"+line+c.text, 3, api.ErrFormat)
				checkFault(t, c.text+line, n+1, api.ErrText)
				checkFault(t, c.text+"a\n\n"+line+"b\n", n+3, api.ErrText)
			}
		}
	}
}

func TestParseOfNoForm(t *testing.T) {
	for _, line := range []string{"@@\n", "@@", " \n", " ", "---\n", "---", "***\n", "+++ b\n", "***************\n", "\\\n", noFeed, "< a\n", "> a", "\r\n", "\x00", "\xff\n", "-", "[\n", "@\n", "`\n", "{", "\"", "$\n", "<", ">\n"} {
		checkFault(t, line, 1, api.ErrFormat)
		for i := range remarks() {
			ahead := strings.Join(remarks()[:i+1], "")
			checkFault(t, ahead+line, i+2, api.ErrFormat)
			if strings.HasSuffix(line, "\n") {
				checkFault(t, line+ahead, 1, api.ErrFormat)
				checkFault(t, ahead+line+ahead, i+2, api.ErrFormat)
				checkFault(t, ahead+line+ahead+line, i+2, api.ErrFormat)
				checkFault(t, line+"x", 1, api.ErrFormat)
				checkFault(t, ahead+line+unifiedNames+unifiedGoes, i+2, api.ErrFormat)
				checkFault(t, ahead+line+"---\n", i+2, api.ErrFormat)
			}
		}
	}
	for _, r := range remarks() {
		checkParse(t, r, nil, 0)
		checkParse(t, strings.TrimSuffix(r, "\n"), nil, 0)
		checkParse(t, strings.Repeat(r, 7), nil, 0)
		checkParse(t, strings.Repeat(r, 7)+"x", nil, 0)
	}
	all := strings.Join(remarks(), "")
	checkParse(t, all, nil, 0)
	checkParse(t, strings.TrimSuffix(all, "\n"), nil, 0)
}

// wrongText is a text without remarks, and the line and the number of its fault.
type wrongText struct {
	name string
	text string
	at   int
	code api.Errno
}

// wrongUnified are texts for each fault of the unified form.
func wrongUnified() []wrongText {
	const n = unifiedNames
	return []wrongText{
		{"no new name", "--- a\n+z\n" + unifiedGoes, 2, api.ErrText},
		{"a wrong line behind a hunk", n + unifiedGoes + "@\n", 5, api.ErrText},
		{"a line of no sign", n + "@@ -1,2 +1 @@\n x\n@\n", 5, api.ErrText},
		{"a mark ahead of its time", n + "@@ -1,2 +0,0 @@\n-x\n" + noFeed + "-y\n", 5, api.ErrText},
		{"no line feed in the front", "--- a", 1, api.ErrText},
		{"no line feed at the end", n + "@@ -1 +0,0 @@\n-x", 4, api.ErrText},
		{"no line feed of the mark", n + unifiedGoes + strings.TrimSuffix(noFeed, "\n"), 5, api.ErrText},
		{"a wrong old name", "--- a b\n+++ b\n" + unifiedGoes, 1, api.ErrName},
		{"a wrong new name", "--- a\n+++ \n" + unifiedGoes, 2, api.ErrName},
		{"a wrong later name", n + unifiedGoes + "--- \"\n+++ b\n" + unifiedGoes, 5, api.ErrName},
		{"the number 0", n + "@@ -0 +1 @@\n-x\n+y\n", 3, api.ErrRange},
		{"a hunk that changes nothing", n + "@@ -1,2 +1,2 @@\n x\n y\n@@ -0 +0 @@\n", 3, api.ErrScript},
		{"a later hunk that changes nothing", n + unifiedGoes + "@@ -5 +4 @@\n x\n", 5, api.ErrScript},
		{"it ends behind the old name", "--- a\n", 2, api.ErrShort},
		{"it ends behind the new name", n, 3, api.ErrShort},
		{"it ends behind the head", n + "@@ -1 +1 @@\n", 4, api.ErrShort},
		{"it ends behind a line", n + "@@ -1 +1 @@\n-x\n", 5, api.ErrShort},
		{"it ends behind the mark", n + "@@ -1 +1 @@\n-x\n" + noFeed, 6, api.ErrShort},
		{"it ends behind a later name", n + unifiedGoes + "--- a\n", 6, api.ErrShort},
		{"another form behind it", n + unifiedGoes + contextNames + contextGoes, 5, api.ErrText},
		{"changes behind it", n + unifiedGoes + normalGoes, 5, api.ErrText},
	}
}

// wrongContext are texts for each fault of the context form.
func wrongContext() []wrongText {
	const n, s = contextNames, contextNames + contextStars
	return []wrongText{
		{"no new name", "*** a\n+++ b\n" + contextGoes, 2, api.ErrText},
		{"no stars", n + "*** 1 ****\n- x\n--- 0 ----\n", 3, api.ErrText},
		{"no range", s + "- x\n--- 0 ----\n", 4, api.ErrText},
		{"a line of no sign", s + "*** 1,2 ****\n- x\n@\n--- 0 ----\n", 6, api.ErrText},
		{"no line feed in the front", "*** a", 1, api.ErrText},
		{"no line feed at the end", s + "*** 1 ****\n- x\n--- 0 ----", 6, api.ErrText},
		{"a wrong old name", "*** a b\n--- b\n" + contextGoes, 1, api.ErrName},
		{"a wrong new name", "*** a\n--- \n" + contextGoes, 2, api.ErrName},
		{"a wrong later name", n + contextGoes + "*** \"\n--- b\n" + contextGoes, 7, api.ErrName},
		{"a hunk that changes nothing", s + "*** 1 ****\n  x\n--- 1 ----\n  x\n" + contextStars, 3, api.ErrScript},
		{"a later hunk that changes nothing", n + contextGoes + contextStars + "*** 1 ****\n--- 1 ----\n", 7, api.ErrScript},
		{"other than the old range says", s + "*** 1,3 ****\n  x\n- y\n--- 1 ----\n", 4, api.ErrCount},
		{"other than the new range says", s + "*** 1,2 ****\n  x\n- y\n--- 1,2 ----\n", 7, api.ErrCount},
		{"the old number 0", s + "*** 0 ****\n- x\n--- 0 ----\n", 4, api.ErrRange},
		{"the new number 0", s + "*** 0 ****\n--- 0 ----\n+ x\n", 5, api.ErrRange},
		{"sides that do not go together", s + "*** 1,2 ****\n  x\n! y\n--- 1 ----\n", 3, api.ErrMatch},
		{"a later hunk whose sides do not", n + contextGoes + contextStars + "*** 5,6 ****\n  x\n! y\n--- 4,5 ----\n  z\n! y\n", 7, api.ErrMatch},
		{"it ends behind the old name", "*** a\n", 2, api.ErrShort},
		{"it ends behind the new name", n, 3, api.ErrShort},
		{"it ends behind the stars", s, 4, api.ErrShort},
		{"it ends behind the old range", s + "*** 1 ****\n", 5, api.ErrShort},
		{"it ends behind an old line", s + "*** 1 ****\n- x\n", 6, api.ErrShort},
		{"it ends behind the mark", s + "*** 1 ****\n- x\n" + noFeed, 7, api.ErrShort},
		{"it ends behind a later name", n + contextGoes + "*** a\n", 8, api.ErrShort},
		{"another form behind it", n + contextGoes + unifiedNames + unifiedGoes, 7, api.ErrText},
		{"changes behind it", n + contextGoes + normalGoes, 7, api.ErrText},
	}
}

// wrongNormal are texts for each fault of the normal form.
func wrongNormal() []wrongText {
	return []wrongText{
		{"no change", "1\n", 1, api.ErrText},
		{"a range that goes down", "2,1d0\n< x\n", 1, api.ErrText},
		{"a line of the other side", "1d0\n> x\n", 2, api.ErrText},
		{"no line between", "1c1\n< x\n> y\n", 3, api.ErrText},
		{"a wrong line behind a change", normalGoes + "@\n", 3, api.ErrText},
		{"no line feed in the front", "1d0", 1, api.ErrText},
		{"no line feed at the end", "1d0\n< x", 2, api.ErrText},
		{"it ends behind the change", "2a1\n", 2, api.ErrShort},
		{"it ends behind an old line", "1c1\n< x\n", 3, api.ErrShort},
		{"it ends behind the line between", "1c1\n< x\n---\n", 4, api.ErrShort},
		{"it ends behind the mark", "1c1\n< x\n" + noFeed, 4, api.ErrShort},
		{"it ends behind a later change", normalGoes + "7d5\n", 4, api.ErrShort},
		{"another form behind it", normalGoes + unifiedNames + unifiedGoes, 3, api.ErrText},
		{"a third form behind it", normalGoes + contextNames + contextGoes, 3, api.ErrText},
	}
}

// checkGaps says that a fault is told with the number that its line has, wherever remarks are put in.
func checkGaps(t *testing.T, c wrongText) {
	t.Helper()
	gaps(c.text, func(text string, put []int) {
		at := c.at
		for _, n := range put[:min(c.at, len(put))] {
			at += n
		}
		checkFault(t, text, at, c.code)
		checkByWords(t, text)
	})
}

func TestParseOfWrongTextsWithRemarks(t *testing.T) {
	for form, l := range map[int][]wrongText{api.FUnified: wrongUnified(), api.FContext: wrongContext(), api.FNormal: wrongNormal()} {
		for _, c := range l {
			t.Run(c.name, func(t *testing.T) {
				checkForm(t, c.text, form)
				checkFault(t, c.text, c.at, c.code)
				checkGaps(t, c)
			})
		}
	}
}

// What is behind the last line has the number of all lines and one more, be the last of them a remark that lacks its line feed.
func TestParseOfTextsThatEndTooEarly(t *testing.T) {
	for _, c := range slices.Concat(wrongUnified(), wrongContext(), wrongNormal()) {
		if c.code != api.ErrShort {
			continue
		}
		n := strings.Count(c.text, "\n")
		checkFault(t, c.text, n+1, api.ErrShort)
		checkFault(t, c.text+"x", n+2, api.ErrShort)
		checkFault(t, c.text+"\n", n+2, api.ErrShort)
		checkFault(t, c.text+"\n\n\n=", n+5, api.ErrShort)
		checkFault(t, "a\n"+c.text, n+2, api.ErrShort)
		checkFault(t, "a\nb\n"+c.text+"#\nc", n+5, api.ErrShort)
	}
}

// A last line that lacks its line feed, as a remark and as a line that counts.
func TestParseOfLastLinesWithoutFeeds(t *testing.T) {
	for _, c := range rightTexts() {
		n := strings.Count(c.text, "\n")
		checkFault(t, strings.TrimSuffix(c.text, "\n"), n, api.ErrText)
		checkFault(t, "a\n\n"+strings.TrimSuffix(c.text, "\n"), n+2, api.ErrText)
		for _, last := range []string{"x", "diff a b", "=", "#", "Z\x00"} {
			checkParse(t, c.text+last, c.want, c.form)
			checkParse(t, "\n"+c.text+"\n"+last, c.want, c.form)
		}
		for _, last := range []string{"@", "\\", "[", "{", "\x00", "*", "/", ":"} {
			checkFault(t, c.text+last, n+1, api.ErrText)
			checkFault(t, c.text+"a\n=\n"+last, n+3, api.ErrText)
		}
	}
}

// With remarks a text may say something else than its lines do without: it is what is left that counts.
func TestParseOfWhatIsLeft(t *testing.T) {
	checkParse(t, unifiedNames+"@@ -1,2 +1 @@\n-x\n\n y\n", []api.Patch{patchOf(samples.Hunk([4]int{1, 2, 1, 1}, "-x\n", " y\n"))}, api.FUnified)
	checkParse(t, unifiedNames+"@@ -1 +1 @@\n-x\n\n"+noFeed+"+y\n#\n"+noFeed, []api.Patch{patchOf(samples.Hunk([4]int{1, 1, 1, 1}, "-x", "+y"))}, api.FUnified)
	checkParse(t, "1c1\n< x\na\n"+noFeed+"=\n---\n\n> y\nb\n"+noFeed, []api.Patch{nameless(samples.Hunk([4]int{1, 1, 1, 1}, "-x", "+y"))}, api.FNormal)
}

package patchset_test

import (
	"slices"
	"strings"
	"testing"

	"redline/api"
	"redline/samples"
)

// Promise 18.2, of texts that are long, and of all that are short.

// filled is a text with as many remarks ahead of it as make it just so long.
func filled(remark, text string, size int) string {
	room := size - len(text)
	return strings.Repeat(remark, room/len(remark)) + strings.Repeat("\n", room%len(remark)) + text
}

func TestParseOfTextsOfAllBytesThatMayBe(t *testing.T) {
	for i, c := range rightTexts() {
		for _, r := range []string{"\n", "# some words\n"}[i%2:] {
			most := filled(r, c.text, api.MaxText)
			checkParse(t, most, c.want, c.form)
			checkFault(t, "\n"+most, 0, api.ErrLong)
			checkFault(t, most+"\n", 0, api.ErrLong)
			checkFault(t, most+"x", 0, api.ErrLong)
			checkFault(t, most+most, 0, api.ErrLong)
			checkParse(t, c.text+filled(r, "", api.MaxText-len(c.text)), c.want, c.form)
			wrong := filled(r, c.text+"@", api.MaxText)
			checkFault(t, wrong, strings.Count(wrong, "\n")+1, api.ErrText)
			checkFault(t, wrong+"\n", 0, api.ErrLong)
		}
	}
	for _, r := range []string{"\n", "=\n", "diff -u a b\n"} {
		most := filled(r, "", api.MaxText)
		checkParse(t, most, nil, 0)
		checkParse(t, most[:api.MaxText-1]+"x", nil, 0)
		checkFault(t, most+"\n", 0, api.ErrLong)
		checkFault(t, most+r, 0, api.ErrLong)
		none := filled(r, "@", api.MaxText)
		checkFault(t, none, strings.Count(none, "\n")+1, api.ErrFormat)
		checkFault(t, most+"@", 0, api.ErrLong)
	}
	for _, wrong := range []string{"@", "@\n", " ", "\x00", "---", "--- ", "*** ", "1", "<\n"} {
		most := strings.Repeat(wrong, api.MaxText)[:api.MaxText]
		checkByWords(t, most)
		checkFault(t, most+"\n", 0, api.ErrLong)
	}
	// One line of all bytes that may be.
	line := unifiedNames + "@@ -1 +0,0 @@\n-"
	most := line + strings.Repeat("x", api.MaxText-len(line)-1) + "\n"
	checkByWords(t, most)
	checkFault(t, most+"\n", 0, api.ErrLong)
	checkFault(t, most[:len(most)-1], 4, api.ErrText)
	checkFault(t, "\n"+most[:len(most)-1], 5, api.ErrText)
}

// What stands behind the last hunk, or the last patch, that may be is told with the number that its line has.
func TestParseOfAsMuchAsMayBe(t *testing.T) {
	for _, c := range []struct {
		names, goes string
		form        int
	}{{unifiedNames, unifiedGoes, api.FUnified}, {contextNames, contextGoes, api.FContext}} {
		const r = "diff a b\n\n"
		lines := strings.Count(c.goes, "\n")
		most := strings.Repeat(c.goes, api.MaxHunks)
		all := patchOf(slices.Repeat([]api.Hunk{gone()}, api.MaxHunks)...)
		checkParse(t, c.names+most, []api.Patch{all}, c.form)
		checkParse(t, r+c.names+r+most+r, []api.Patch{all}, c.form)
		checkFault(t, c.names+most+c.goes, 3+lines*api.MaxHunks, api.ErrLong)
		checkFault(t, r+c.names+r+most+r+c.goes+r, 9+lines*api.MaxHunks, api.ErrLong)
		checkFault(t, c.names+strings.ReplaceAll(most, "\n", "\n#\n")+c.goes, 3+2*lines*api.MaxHunks, api.ErrLong)

		lines = strings.Count(c.names+c.goes, "\n")
		most = strings.Repeat(c.names+c.goes, api.MaxFiles)
		files := slices.Repeat([]api.Patch{patchOf(gone())}, api.MaxFiles)
		checkParse(t, most, files, c.form)
		checkParse(t, strings.Repeat(r+c.names+c.goes, api.MaxFiles), files, c.form)
		checkFault(t, most+c.names+c.goes, 1+lines*api.MaxFiles, api.ErrLong)
		checkFault(t, strings.Repeat(r+c.names+c.goes, api.MaxFiles+1), 3+(lines+2)*api.MaxFiles, api.ErrLong)
		checkFault(t, r+most+"=\n"+c.names, 4+lines*api.MaxFiles, api.ErrLong)
	}
	most := strings.Repeat(normalGoes, api.MaxHunks)
	checkParse(t, most, []api.Patch{nameless(slices.Repeat([]api.Hunk{gone()}, api.MaxHunks)...)}, api.FNormal)
	checkFault(t, most+normalGoes, 1+2*api.MaxHunks, api.ErrLong)
	checkFault(t, "a\n"+most+"\n"+normalGoes+"\n", 3+2*api.MaxHunks, api.ErrLong)
	checkFault(t, strings.ReplaceAll(most+normalGoes, "\n", "\na\n"), 1+4*api.MaxHunks, api.ErrLong)
}

// Rows of lines of all the kinds that there are, the last one with and without its line feed.
func TestParseOfAllShortRowsOfLines(t *testing.T) {
	right := map[int]int{}
	for form, kinds := range map[int][]string{
		api.FUnified: {"a\n", "\n", "@\n", unifiedNames, "--- a\n", unifiedGoes, "@@ -1,2 +1 @@\n", " y\n", "-x\n", noFeed},
		api.FContext: {"a\n", "\n", "@\n", contextNames, contextGoes, contextStars, "*** 1 ****\n- x\n", "--- 0 ----\n", noFeed},
		api.FNormal:  {"a\n", "\n", "@\n", normalGoes, "1c1\n", "< x\n", "---\n", "> x\n", noFeed},
	} {
		samples.Lists(kinds, 5, func(l []string) {
			text := strings.Join(l, "")
			if checkByWords(t, text) {
				right[form]++
			}
			checkByWords(t, strings.TrimSuffix(text, "\n"))
		})
		if right[form] < 100 {
			t.Errorf("only %d of the form %d are right", right[form], form)
		}
	}
}

func TestParseOfAllShortTexts(t *testing.T) {
	for _, alphabet := range []string{"- \n1a", "* \n@z", "0d1\n#", "1c< \n"} {
		samples.Texts(alphabet, 6, func(s string) {
			checkByWords(t, s)
			checkByWords(t, unifiedNames+s)
			checkByWords(t, contextNames+contextGoes+s)
			checkByWords(t, normalGoes+s+normalGoes)
		})
	}
}

// Another byte at each place, a byte more, a byte less, two lines exchanged, one left out or twice there; and texts that end and begin behind each byte.
func TestParseOfTextsThatAreNearlyRight(t *testing.T) {
	for _, c := range rightTexts() {
		text := "diff\n" + strings.Replace(c.text, "\n", "\n\n", 2) + "=\n"
		samples.Nearly(text, func(s string) { checkByWords(t, s) })
		for i := range len(text) {
			checkByWords(t, text[:i])
			checkByWords(t, text[i:])
		}
	}
}

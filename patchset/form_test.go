package patchset_test

import (
	"strings"
	"testing"

	"redline/api"
	"redline/samples"
)

// Promise 18.1, and what a remark is.

// remarks are remarks of all kinds.
func remarks() []string {
	return []string{
		"\n", "A\n", "Z\n", "a\n", "z\n", "=\n", "#\n", "diff -u a b\n", "Index: a\n", "Only in a: b\n", "===================\n", "# a comment\n",
		"a\x00\xff\n", "=@@ -1 +1 @@\n", "#--- a\n", "x--- a\n", "d1\n", "M \t \r\n", "a\xc3\xa4\n",
	}
}

// isLetter tells whether a byte is one.
func isLetter(c byte) bool {
	return strings.IndexByte("ABCDEFGHIJKLMNOPQRSTUVWXYZabcdefghijklmnopqrstuvwxyz", c) >= 0
}

// checkEverywhere says that a text has that form, also behind remarks.
func checkEverywhere(t *testing.T, text string, form int) {
	t.Helper()
	checkForm(t, text, form)
	checkForm(t, strings.Join(remarks(), "")+text, form)
	for _, r := range remarks() {
		checkForm(t, r+text, form)
		checkForm(t, r+r+text, form)
		if strings.HasSuffix(text, "\n") {
			checkForm(t, text+r, form)
		}
	}
}

func TestFormOfEdges(t *testing.T) {
	for _, c := range []struct {
		text string
		want int
	}{
		{"", 0}, {"\n", 0}, {"@@\n", 0}, {"12d3\n", api.FNormal},
		{"--- a\n", api.FUnified}, {"--- \n", api.FUnified}, {"--- ", api.FUnified}, {"---  a", api.FUnified}, {"--- 1,3 ----\n", api.FUnified},
		{"---\n", 0}, {"---", 0}, {"---a\n", 0}, {"---\ta\n", 0}, {"----\n", 0}, {"---- a\n", 0}, {"-- a\n", 0}, {"--\n", 0}, {"-\n", 0}, {"- a\n", 0}, {" --- a\n", 0}, {"\t--- a\n", 0},
		{"*** a\n", api.FContext}, {"*** \n", api.FContext}, {"*** ", api.FContext}, {"***  a", api.FContext}, {"*** 1,3 ****\n", api.FContext},
		{"***\n", 0}, {"***", 0}, {"***a\n", 0}, {"***\ta\n", 0}, {"***************\n", 0}, {"**** a\n", 0}, {"** a\n", 0}, {"**\n", 0}, {"*\n", 0}, {"* a\n", 0}, {" *** a\n", 0},
		{"0\n", api.FNormal}, {"9", api.FNormal}, {"1a1\n", api.FNormal}, {"5 a", api.FNormal}, {"7\x00", api.FNormal}, {" 1\n", 0}, {"-1\n", 0}, {"/1\n", 0}, {":1\n", 0},
		{"+++ b\n", 0}, {"+\n", 0}, {"< a\n", 0}, {"> a\n", 0}, {noFeed, 0}, {"\r\n", 0}, {"\r", 0}, {" \n", 0}, {" ", 0}, {"\x00\n", 0}, {"\xff\n", 0}, {"\xc3\xa4\n", 0}, {"\u212a\n", 0}, {"\xe2\x84\n", 0},
		{"@@\n--- a\n", 0}, {" \n*** a\n", 0}, {"\\\n1a1\n", 0}, {"--- a\n*** a\n1\n", api.FUnified}, {"*** a\n--- a\n1\n", api.FContext}, {"1\n--- a\n*** a\n", api.FNormal},
	} {
		checkEverywhere(t, c.text, c.want)
	}
}

// Each byte at the front of a line, alone in it and ahead of others: with it the line is a remark, or says the form.
func TestFormOfEachByteAtTheFront(t *testing.T) {
	for i := range 256 {
		c := byte(i)
		s := string([]byte{c})
		for _, line := range []string{s, s + "--- a", s + "*** a", s + "1a1", s + "\x00", s + s} {
			if c == '\n' {
				continue // these are two lines
			}
			form, counts := 0, 0
			switch {
			case isLetter(c) || c == '=' || c == '#':
				counts = api.FUnified // of what stands behind
			case '0' <= c && c <= '9':
				form, counts = api.FNormal, api.FNormal
			}
			checkEverywhere(t, line, form)
			checkEverywhere(t, line+"\n", form)
			checkEverywhere(t, line+"\n--- a\n", counts)
		}
	}
	for _, c := range []byte("@[`{<>\"$") { // next to those
		checkEverywhere(t, string([]byte{c})+"\n--- a\n", 0)
	}
}

func TestFormOfRemarksAlone(t *testing.T) {
	for _, r := range remarks() {
		checkForm(t, r, 0)
		checkForm(t, strings.TrimSuffix(r, "\n"), 0)
		checkForm(t, strings.Repeat(r, 9), 0)
		checkForm(t, "\n"+strings.TrimSuffix(r, "\n"), 0)
	}
	all := strings.Join(remarks(), "")
	checkForm(t, all, 0)
	checkForm(t, strings.TrimSuffix(all, "\n"), 0)
}

func TestFormOfAllShortTexts(t *testing.T) {
	for _, alphabet := range []string{"- \n1a", "* \n@z", "-*\n#=", "\n0 A<", "Z[@\n9"} {
		samples.Texts(alphabet, 7, func(s string) { checkForm(t, s, formByWords(s)) })
	}
}

// There is a form of texts, too, that are too long to be read.
func TestFormHasNoLimit(t *testing.T) {
	for _, r := range []string{"\n", "a\n", "= \n", strings.Repeat("x", 5000) + "\n"} {
		ahead := strings.Repeat(r, 2*api.MaxText/len(r)+1)
		checkForm(t, ahead, 0)
		checkForm(t, ahead+"--- ", api.FUnified)
		checkForm(t, ahead+"*** a\n", api.FContext)
		checkForm(t, ahead+"1", api.FNormal)
		checkForm(t, ahead+" ", 0)
		checkForm(t, "--- a\n"+ahead, api.FUnified)
		checkForm(t, "@\n"+ahead+"--- a\n", 0)
	}
	checkForm(t, "*** "+strings.Repeat("x", 2*api.MaxText), api.FContext)
	checkForm(t, strings.Repeat("x", 2*api.MaxText)+"\n1", api.FNormal)
}

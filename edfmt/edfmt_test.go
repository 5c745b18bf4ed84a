package edfmt_test

import (
	"fmt"
	"strings"
	"testing"

	"redline/api"
	"redline/edfmt"
	"redline/samples"
)

type rows = samples.Rows

// endLine is the end line, as the chapter writes it.
const endLine = "\\ No newline at end of file\n"

// told is something as it is told, of a long one its beginning.
func told(x any) string {
	return fmt.Sprintf("%.300s", fmt.Sprintf("%+q", x))
}

// checkPrint holds Print against what it must answer.
func checkPrint(t *testing.T, l []api.Change, a, b []string, want string, code api.Errno) {
	t.Helper()
	text, err := edfmt.Print(l, a, b)
	if text != want || err != code {
		t.Errorf("%s of %s and %s: %s, %d, want %s, %d", told(l), told(a), told(b), told(text), err, told(want), code)
	}
}

// textByWords is what stands behind a command that puts in lines, of which there is one at least.
func textByWords(l []string) string {
	s := ""
	for i, line := range l {
		line = strings.TrimSuffix(line, "\n")
		if line != "." {
			s += line + "\n"
			continue
		}
		s += "..\n.\ns/.//\n"
		if i+1 == len(l) {
			return s
		}
		return s + "a\n" + textByWords(l[i+1:])
	}
	return s + ".\n"
}

// commandByWords is what a change is, by the chapter's words.
func commandByWords(c api.Change, b []string) string {
	oldRange := fmt.Sprint(c.A + 1)
	if c.AN > 1 {
		oldRange += fmt.Sprint(",", c.A+c.AN)
	}
	switch {
	case c.AN == 0:
		return fmt.Sprint(c.A) + "a\n" + textByWords(b[c.B:c.B+c.BN])
	case c.BN == 0:
		return oldRange + "d\n"
	}
	return oldRange + "c\n" + textByWords(b[c.B:c.B+c.BN])
}

// printByWords is the commands of changes, by the chapter's words.
func printByWords(l []api.Change, b []string) string {
	var s []string
	for i := range l {
		s = append(s, commandByWords(l[len(l)-1-i], b))
	}
	if n := len(b); n > 0 && !strings.HasSuffix(b[n-1], "\n") {
		s = append(s, endLine)
	}
	return strings.Join(s, "")
}

// Promise 13.1.

func TestPrintOfTheChaptersExamples(t *testing.T) {
	a := []string{"1\n", "2\n", "3\n"}
	checkPrint(t, rows{{1, 2, 1, 1}}.Changes(), a, []string{"1\n", ".\n"}, "2,3c\n..\n.\ns/.//\n", api.OK)
	checkPrint(t, rows{{0, 0, 0, 1}}.Changes(), nil, []string{"x"}, "0a\nx\n.\n"+endLine, api.OK)
}

// printCase is what is done with the lines of two texts, which are those that samples.Pair makes, and the commands of it.
type printCase struct {
	name  string
	signs string
	want  string
}

// printCases are the edges of where changes may stand, and of how many lines they have.
func printCases() []printCase {
	return []printCase{
		{"no lines at all", "", ""},
		{"all is kept", "===", ""},
		{"one goes", "=-=", "2d\n"},
		{"two go", "=--=", "2,3d\n"},
		{"three go", "=---=", "2,4d\n"},
		{"one comes", "=+=", "1a\nb1\n.\n"},
		{"two come", "=++=", "1a\nb1\nb2\n.\n"},
		{"three come", "=+++=", "1a\nb1\nb2\nb3\n.\n"},
		{"one for one", "=-+=", "2c\nb1\n.\n"},
		{"one for two", "=-++=", "2c\nb1\nb2\n.\n"},
		{"two for one", "=--+=", "2,3c\nb1\n.\n"},
		{"two for two", "=--++=", "2,3c\nb1\nb2\n.\n"},
		{"the first line goes", "-==", "1d\n"},
		{"the first lines go", "--=", "1,2d\n"},
		{"ahead of all comes one", "+==", "0a\nb0\n.\n"},
		{"ahead of all come two", "++=", "0a\nb0\nb1\n.\n"},
		{"the first line is another one", "-+=", "1c\nb0\n.\n"},
		{"the last line goes", "==-", "3d\n"},
		{"the last lines go", "=--", "2,3d\n"},
		{"behind all comes one", "==+", "2a\nb2\n.\n"},
		{"the last line is another one", "==-+", "3c\nb2\n.\n"},
		{"all go", "--", "1,2d\n"},
		{"the only one goes", "-", "1d\n"},
		{"all come", "++", "0a\nb0\nb1\n.\n"},
		{"all are others", "--++", "1,2c\nb0\nb1\n.\n"},
		{"several, the last one first", "-=+=-+", "4c\nb3\n.\n2a\nb1\n.\n1d\n"},
		{"several of a kind", "-=-=-", "5d\n3d\n1d\n"},
		{"several that come", "+=+=+", "2a\nb4\n.\n1a\nb2\n.\n0a\nb0\n.\n"},
		{"numbers of several digits", strings.Repeat("=", 98) + "--++=-", "102d\n99,100c\nb98\nb99\n.\n"},
	}
}

func TestPrintOfEdges(t *testing.T) {
	for _, c := range printCases() {
		t.Run(c.name, func(t *testing.T) {
			a, b := samples.Pair(c.signs)
			checkPrint(t, samples.Script(c.signs), a, b, c.want, api.OK)
			end := ""
			if len(b) > 0 {
				end = endLine
			}
			checkPrint(t, samples.Script(c.signs), a, samples.Unfed(b), c.want+end, api.OK)
			checkPrint(t, samples.Script(c.signs), samples.Unfed(a), b, c.want, api.OK)
		})
	}
}

func TestPrintOfDots(t *testing.T) {
	const dot = "..\n.\ns/.//\n"
	for _, c := range []struct {
		name string
		put  []string
		want string
	}{
		{"alone", []string{".\n"}, dot},
		{"the first", []string{".\n", "x\n"}, dot + "a\nx\n.\n"},
		{"the first of three", []string{".\n", "x\n", "y\n"}, dot + "a\nx\ny\n.\n"},
		{"the last", []string{"x\n", ".\n"}, "x\n" + dot},
		{"the last of three", []string{"x\n", "y\n", ".\n"}, "x\ny\n" + dot},
		{"between", []string{"x\n", ".\n", "y\n"}, "x\n" + dot + "a\ny\n.\n"},
		{"two", []string{".\n", ".\n"}, dot + "a\n" + dot},
		{"three", []string{".\n", ".\n", ".\n"}, dot + "a\n" + dot + "a\n" + dot},
		{"two, another one between", []string{".\n", "x\n", ".\n"}, dot + "a\nx\n" + dot},
		{"two, others around", []string{"x\n", ".\n", ".\n", "y\n"}, "x\n" + dot + "a\n" + dot + "a\ny\n.\n"},
		{"without its feed", []string{"."}, dot + endLine},
		{"without its feed, behind others", []string{"x\n", "."}, "x\n" + dot + endLine},
		{"without its feed, behind a dot", []string{".\n", "."}, dot + "a\n" + dot + endLine},
		{"two dots", []string{"..\n"}, "..\n.\n"},
		{"two dots without their feed", []string{".."}, "..\n.\n" + endLine},
		{"two dots behind a dot", []string{".\n", "..\n"}, dot + "a\n..\n.\n"},
		{"three dots", []string{"...\n"}, "...\n.\n"},
		{"a dot and more", []string{".x\n", ". \n", " .\n", ".\r\n", "x.\n"}, ".x\n. \n .\n.\r\nx.\n.\n"},
		{"an empty line", []string{"\n"}, "\n.\n"},
		{"empty lines", []string{"\n", "\n"}, "\n\n.\n"},
		{"an empty line and a dot", []string{"\n", ".\n", "\n"}, "\n" + dot + "a\n\n.\n"},
		{"what looks like a command", []string{"1d\n", "a\n", "s/.//\n", endLine}, "1d\na\ns/.//\n" + endLine + ".\n"},
	} {
		t.Run(c.name, func(t *testing.T) {
			n := strings.Repeat("+", len(c.put))
			checkPrint(t, samples.Script(n), nil, c.put, "0a\n"+c.want, api.OK)
			checkPrint(t, samples.Script("--"+n), []string{"1\n", "2\n"}, c.put, "1,2c\n"+c.want, api.OK)
			checkPrint(t, samples.Script("="+n), []string{"1\n"}, append([]string{"1\n"}, c.put...), "1a\n"+c.want, api.OK)
		})
	}
	// A dot that goes, or is kept, is not written.
	checkPrint(t, samples.Script("-"), []string{".\n"}, nil, "1d\n", api.OK)
	checkPrint(t, samples.Script("=-+="), []string{".\n", ".\n", "."}, []string{".\n", "x\n", "."}, "2c\nx\n.\n"+endLine, api.OK)
}

func TestPrintOfLinesWithoutTheirFeeds(t *testing.T) {
	for _, c := range []struct {
		name  string
		signs string
		a, b  []string
		want  string
	}{
		{"one that comes", "=+", []string{"1\n"}, []string{"1\n", "2"}, "1a\n2\n.\n" + endLine},
		{"the last of two that come", "++", nil, []string{"1\n", "2"}, "0a\n1\n2\n.\n" + endLine},
		{"one in another's place", "-+", []string{"1\n"}, []string{"1"}, "1c\n1\n.\n" + endLine},
		{"one that is kept", "-=", []string{"1\n", "2"}, []string{"2"}, "1d\n" + endLine},
		{"one that is kept, and nothing is changed", "==", []string{"1\n", "2"}, []string{"1\n", "2"}, endLine},
		{"one that goes", "=-", []string{"1\n", "2"}, []string{"1\n"}, "2d\n"},
		{"one that goes for another with its feed", "-+", []string{"1"}, []string{"1\n"}, "1c\n1\n.\n"},
		{"all go", "--", []string{"1\n", "2"}, nil, "1,2d\n"},
		{"one that is not the last", "++", nil, []string{"1", "2\n"}, "0a\n1\n2\n.\n"},
		{"one that is empty", "+", nil, []string{""}, "0a\n\n.\n" + endLine},
		{"one that is empty, and kept", "=", []string{""}, []string{""}, endLine},
	} {
		t.Run(c.name, func(t *testing.T) { checkPrint(t, samples.Script(c.signs), c.a, c.b, c.want, api.OK) })
	}
}

// Which bytes the lines have says nothing, but of a dot: they may be no lines at all.
func TestPrintOfAnyLines(t *testing.T) {
	for _, c := range []struct{ line, want string }{
		{"", "\n.\n" + endLine},
		{"\n\n", "\n\n.\n"},
		{"a\nb", "a\nb\n.\n" + endLine},
		{"a\nb\n", "a\nb\n.\n"},
		{".\n\n", ".\n\n.\n"},
		{"\n.\n", "\n.\n.\n"},
		{"a\r\n", "a\r\n.\n"},
		{"a\r", "a\r\n.\n" + endLine},
		{"\x00\n", "\x00\n.\n"},
		{"\xff\xfe", "\xff\xfe\n.\n" + endLine},
		{strings.TrimSuffix(endLine, "\n"), endLine + ".\n" + endLine},
	} {
		checkPrint(t, samples.Script("+"), nil, []string{c.line}, "0a\n"+c.want, api.OK)
		checkPrint(t, samples.Script("-+"), []string{c.line}, []string{c.line}, "1c\n"+c.want, api.OK)
		checkPrint(t, samples.Script("-"), []string{c.line}, nil, "1d\n", api.OK)
	}
	for c := range 256 {
		for _, line := range []string{string([]byte{byte(c), '\n'}), string([]byte{'a', byte(c), 'b', '\n'}), string([]byte{'.', byte(c), '\n'})} {
			if c != '\n' && line != ".\n" {
				checkPrint(t, samples.Script("-+"), []string{"x\n"}, []string{line}, "1c\n"+line+".\n", api.OK)
			}
		}
	}
}

// What the old lines are is not asked, only how many there are.
func TestPrintOfAllShortTexts(t *testing.T) {
	samples.Texts("=-+", 8, func(signs string) {
		l := samples.Script(signs)
		a, b := samples.Pair(signs)
		checkPrint(t, l, a, b, printByWords(l, b), api.OK)
		checkPrint(t, l, make([]string, len(a)), samples.Unfed(b), printByWords(l, samples.Unfed(b)), api.OK)
	})
	samples.Lists([]string{".\n", "..\n", "\n", "x\n"}, 5, func(put []string) {
		plus := strings.Repeat("+", len(put))
		for _, signs := range []string{plus, "-" + plus, "--" + plus} {
			l := samples.Script(signs)
			a, _ := samples.Pair(signs)
			checkPrint(t, l, a, put, printByWords(l, put), api.OK)
			checkPrint(t, l, a, samples.Unfed(put), printByWords(l, samples.Unfed(put)), api.OK)
		}
		signs := strings.ReplaceAll(plus, "++", "+=+")
		if b := append(put, "y\n", ".\n", "z\n"); len(samples.Script(signs)) > 0 {
			_, all := samples.Pair(signs)
			b = b[:len(all)]
			l := samples.Script(signs)
			checkPrint(t, l, samples.Before(signs, b), b, printByWords(l, b), api.OK)
		}
	})
}

// More changes and lines than may be compared, a longer text than may be run.
func TestPrintHasNoLimit(t *testing.T) {
	for _, signs := range []string{
		strings.Repeat("-=+=-+=", api.MaxHunks/2),
		strings.Repeat("-", 3*api.MaxLines) + strings.Repeat("+", 3*api.MaxLines),
	} {
		a, b := samples.Pair(signs)
		l := samples.Script(signs)
		checkPrint(t, l, a, b, printByWords(l, b), api.OK)
	}
	long := strings.Repeat("x", api.MaxText) + "\n"
	checkPrint(t, samples.Script("-+"), []string{long}, []string{long}, "1c\n"+long+".\n", api.OK)
}

func TestPrintOfWrongScripts(t *testing.T) {
	a, b := samples.Pair("====")
	for _, l := range samples.WrongScripts() {
		checkPrint(t, l, a, b, "", api.ErrScript)
		checkPrint(t, l, a, samples.Unfed(b), "", api.ErrScript)
	}
	right := rows{{0, 1, 0, 1}}.Changes()
	checkPrint(t, right, a, b, "1c\nb0\n.\n", api.OK)
	checkPrint(t, right, a, b[1:], "", api.ErrScript)
	checkPrint(t, right, a[1:], b, "", api.ErrScript)
	checkPrint(t, right, nil, nil, "", api.ErrScript)
	checkPrint(t, nil, a, b[1:], "", api.ErrScript)
	checkPrint(t, nil, nil, b, "", api.ErrScript)
	checkPrint(t, nil, a, nil, "", api.ErrScript)
	checkPrint(t, nil, a, b, "", api.OK)
	checkPrint(t, []api.Change{}, nil, nil, "", api.OK)
}

package normal_test

import (
	"fmt"
	"strings"
	"testing"

	"redline/api"
	"redline/normal"
	"redline/samples"
)

type rows = samples.Rows

// noFeed is the mark, as the chapter writes it.
const noFeed = "\\ No newline at end of file\n"

// told is something as it is told, of a long one its beginning.
func told(x any) string {
	return fmt.Sprintf("%.300s", fmt.Sprintf("%+q", x))
}

// checkPrint holds Print against what it must answer.
func checkPrint(t *testing.T, l []api.Change, a, b []string, want string, code api.Errno) {
	t.Helper()
	text, err := normal.Print(l, a, b)
	if text != want || err != code {
		t.Errorf("%s of %s and %s: %s, %d, want %s, %d", told(l), told(a), told(b), told(text), err, told(want), code)
	}
}

// rangeByWords is the range of the lines from p to q.
func rangeByWords(p, q int) string {
	if p == q {
		return fmt.Sprint(p)
	}
	return fmt.Sprintf("%d,%d", p, q)
}

// textByWords is the texts of lines.
func textByWords(sign string, l []string) string {
	var s []string
	for _, line := range l {
		s = append(s, sign+" "+line)
		if line == "" || line[len(line)-1] != '\n' {
			s = append(s, "\n"+noFeed)
		}
	}
	return strings.Join(s, "")
}

// printByWords is the normal forms of changes, by the chapter's words.
func printByWords(l []api.Change, a, b []string) string {
	var s []string
	for _, c := range l {
		before, behind := a[c.A:c.A+c.AN], b[c.B:c.B+c.BN]
		oldRange, newRange := rangeByWords(c.A+1, c.A+c.AN), rangeByWords(c.B+1, c.B+c.BN)
		switch {
		case c.AN > 0 && c.BN > 0:
			s = append(s, oldRange, "c", newRange, "\n", textByWords("<", before), "---\n", textByWords(">", behind))
		case c.AN > 0:
			s = append(s, oldRange, "d", fmt.Sprint(c.B), "\n", textByWords("<", before))
		default:
			s = append(s, fmt.Sprint(c.A), "a", newRange, "\n", textByWords(">", behind))
		}
	}
	return strings.Join(s, "")
}

// Promise 12.1.

func TestPrintOfTheChaptersExample(t *testing.T) {
	a, b := []string{"1\n", "2\n", "3\n"}, []string{"1\n", "x\n", "3\n", "4"}
	checkPrint(t, rows{{1, 1, 1, 1}, {3, 0, 3, 1}}.Changes(), a, b, "2c2\n< 2\n---\n> x\n3a4\n> 4\n"+noFeed, api.OK)
	b = []string{"1\n", "x\n", "3"}
	checkPrint(t, rows{{1, 2, 1, 2}}.Changes(), a, b, "2,3c2,3\n< 2\n< 3\n---\n> x\n> 3\n"+noFeed, api.OK)
}

// printCase is what is done with the lines of two texts, which are those that samples.Pair makes, and the normal form of it.
type printCase struct {
	name  string
	signs string
	want  string
}

// printCases are the edges of where changes may stand, and of how many lines they have.
func printCases() []printCase {
	return []printCase{
		{"no lines at all", "", ""},
		{"all is kept", "===", ""},
		{"one goes", "=-=", "2d1\n< a1\n"},
		{"two go", "=--=", "2,3d1\n< a1\n< a2\n"},
		{"three go", "=---=", "2,4d1\n< a1\n< a2\n< a3\n"},
		{"one comes", "=+=", "1a2\n> b1\n"},
		{"two come", "=++=", "1a2,3\n> b1\n> b2\n"},
		{"three come", "=+++=", "1a2,4\n> b1\n> b2\n> b3\n"},
		{"one for one", "=-+=", "2c2\n< a1\n---\n> b1\n"},
		{"one for two", "=-++=", "2c2,3\n< a1\n---\n> b1\n> b2\n"},
		{"two for one", "=--+=", "2,3c2\n< a1\n< a2\n---\n> b1\n"},
		{"two for two", "=--++=", "2,3c2,3\n< a1\n< a2\n---\n> b1\n> b2\n"},
		{"the first line goes", "-==", "1d0\n< a0\n"},
		{"the first lines go", "--=", "1,2d0\n< a0\n< a1\n"},
		{"ahead of all comes one", "+==", "0a1\n> b0\n"},
		{"ahead of all come two", "++=", "0a1,2\n> b0\n> b1\n"},
		{"the first line is another one", "-+=", "1c1\n< a0\n---\n> b0\n"},
		{"the last line goes", "==-", "3d2\n< a2\n"},
		{"behind all comes one", "==+", "2a3\n> b2\n"},
		{"the last line is another one", "==-+", "3c3\n< a2\n---\n> b2\n"},
		{"all go", "--", "1,2d0\n< a0\n< a1\n"},
		{"all come", "++", "0a1,2\n> b0\n> b1\n"},
		{"all are others", "--++", "1,2c1,2\n< a0\n< a1\n---\n> b0\n> b1\n"},
		{"several", "-=+=-+", "1d0\n< a0\n2a2\n> b1\n4c4\n< a3\n---\n> b3\n"},
		{"numbers of several digits", strings.Repeat("=", 98) + "--++=-", "99,100c99,100\n< a98\n< a99\n---\n> b98\n> b99\n102d101\n< a101\n"},
	}
}

func TestPrintOfEdges(t *testing.T) {
	for _, c := range printCases() {
		t.Run(c.name, func(t *testing.T) {
			a, b := samples.Pair(c.signs)
			checkPrint(t, samples.Script(c.signs), a, b, c.want, api.OK)
		})
	}
}

func TestPrintOfLinesWithoutTheirFeeds(t *testing.T) {
	for _, c := range []struct {
		name  string
		signs string
		a, b  []string
		want  string
	}{
		{"the old one that goes", "=-", []string{"1\n", "2"}, []string{"1\n"}, "2d1\n< 2\n" + noFeed},
		{"the last of two that go", "--", []string{"1\n", "2"}, nil, "1,2d0\n< 1\n< 2\n" + noFeed},
		{"the new one that comes", "=+", []string{"1\n"}, []string{"1\n", "2"}, "1a2\n> 2\n" + noFeed},
		{"the last of two that come", "++", nil, []string{"1\n", "2"}, "0a1,2\n> 1\n> 2\n" + noFeed},
		{"the old one alone", "-+", []string{"1"}, []string{"1\n"}, "1c1\n< 1\n" + noFeed + "---\n> 1\n"},
		{"the new one alone", "-+", []string{"1\n"}, []string{"1"}, "1c1\n< 1\n---\n> 1\n" + noFeed},
		{"both", "-+", []string{"1"}, []string{"2"}, "1c1\n< 1\n" + noFeed + "---\n> 2\n" + noFeed},
		{"both, behind others", "--++", []string{"1\n", "2"}, []string{"3\n", "4"}, "1,2c1,2\n< 1\n< 2\n" + noFeed + "---\n> 3\n> 4\n" + noFeed},
		{"one that is kept", "-=", []string{"1\n", "2"}, []string{"2"}, "1d0\n< 1\n"},
		{"of an earlier change", "-=+", []string{"1", "2\n"}, []string{"2\n", "3"}, "1d0\n< 1\n" + noFeed + "2a2\n> 3\n" + noFeed},
		{"not the last one", "--", []string{"1", "2\n"}, nil, "1,2d0\n< 1\n" + noFeed + "< 2\n"},
	} {
		t.Run(c.name, func(t *testing.T) { checkPrint(t, samples.Script(c.signs), c.a, c.b, c.want, api.OK) })
	}
}

// Which bytes the lines have says nothing: they may be no lines at all.
func TestPrintOfAnyLines(t *testing.T) {
	for _, c := range []struct{ line, want string }{
		{"\n", "< \n"},
		{"", "< \n" + noFeed},
		{" \n", "<  \n"},
		{"\n\n", "< \n\n"},
		{"a\nb", "< a\nb\n" + noFeed},
		{"a\nb\n", "< a\nb\n"},
		{"a\r\n", "< a\r\n"},
		{"a\r", "< a\r\n" + noFeed},
		{"\x00\n", "< \x00\n"},
		{"\xff\xfe", "< \xff\xfe\n" + noFeed},
		{"---\n", "< ---\n"},
		{"< a\n", "< < a\n"},
		{"1d0\n", "< 1d0\n"},
		{noFeed, "< " + noFeed},
		{strings.TrimSuffix(noFeed, "\n"), "< " + noFeed + noFeed},
	} {
		checkPrint(t, samples.Script("-"), []string{c.line}, nil, "1d0\n"+c.want, api.OK)
		checkPrint(t, samples.Script("+"), nil, []string{c.line}, "0a1\n>"+c.want[1:], api.OK)
		checkPrint(t, samples.Script("-+"), []string{c.line}, []string{c.line}, "1c1\n"+c.want+"---\n>"+c.want[1:], api.OK)
	}
	for c := range 256 {
		if line := string([]byte{'a', byte(c), 'b', '\n'}); c != '\n' {
			checkPrint(t, samples.Script("-"), []string{line}, nil, "1d0\n< "+line, api.OK)
		}
	}
}

func TestPrintOfAllShortTexts(t *testing.T) {
	samples.Texts("=-+", 8, func(signs string) {
		l := samples.Script(signs)
		a, b := samples.Pair(signs)
		checkPrint(t, l, a, b, printByWords(l, a, b), api.OK)
		checkPrint(t, l, samples.Unfed(a), b, printByWords(l, samples.Unfed(a), b), api.OK)
		checkPrint(t, l, a, samples.Unfed(b), printByWords(l, a, samples.Unfed(b)), api.OK)
		checkPrint(t, l, samples.Unfed(a), samples.Unfed(b), printByWords(l, samples.Unfed(a), samples.Unfed(b)), api.OK)
	})
}

// More changes than may be read, more lines than may be compared, a longer text than may be read.
func TestPrintHasNoLimit(t *testing.T) {
	for _, signs := range []string{
		strings.Repeat("-=+=-+=", api.MaxHunks/2),
		strings.Repeat("-", 3*api.MaxLines) + strings.Repeat("+", 3*api.MaxLines),
	} {
		a, b := samples.Pair(signs)
		l := samples.Script(signs)
		checkPrint(t, l, a, b, printByWords(l, a, b), api.OK)
	}
	long := strings.Repeat("x", api.MaxText) + "\n"
	checkPrint(t, samples.Script("-+"), []string{long}, []string{long}, "1c1\n< "+long+"---\n> "+long, api.OK)
}

func TestPrintOfWrongScripts(t *testing.T) {
	a, b := samples.Pair("====")
	for _, l := range samples.WrongScripts() {
		checkPrint(t, l, a, b, "", api.ErrScript)
	}
	right := rows{{0, 1, 0, 1}}.Changes()
	checkPrint(t, right, a, b, "1c1\n< a0\n---\n> b0\n", api.OK)
	checkPrint(t, right, a, b[1:], "", api.ErrScript)
	checkPrint(t, right, a[1:], b, "", api.ErrScript)
	checkPrint(t, right, nil, nil, "", api.ErrScript)
	checkPrint(t, nil, a, b[1:], "", api.ErrScript)
	checkPrint(t, nil, nil, b, "", api.ErrScript)
	checkPrint(t, nil, a, b, "", api.OK)
	checkPrint(t, []api.Change{}, nil, nil, "", api.OK)
}

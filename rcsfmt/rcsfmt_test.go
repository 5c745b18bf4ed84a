package rcsfmt_test

import (
	"fmt"
	"strings"
	"testing"

	"redline/api"
	"redline/rcsfmt"
	"redline/samples"
)

type rows = samples.Rows

// told is something as it is told, of a long one its beginning.
func told(x any) string {
	return fmt.Sprintf("%.300s", fmt.Sprintf("%+q", x))
}

// checkPrint holds Print against what it must answer.
func checkPrint(t *testing.T, l []api.Change, a, b []string, want string, code api.Errno) {
	t.Helper()
	text, err := rcsfmt.Print(l, a, b)
	if text != want || err != code {
		t.Errorf("%s of %s and %s: %s, %d, want %s, %d", told(l), told(a), told(b), told(text), err, told(want), code)
	}
}

// printByWords is the commands of what signs say, sign by sign: which lines go and come in a change is counted, and told where it ends.
func printByWords(signs string, b []string) string {
	var s strings.Builder
	old, gone := 0, 0 // how many lines of the old text are passed, and how many of these the change takes out
	var put []string
	tell := func() {
		if gone > 0 {
			fmt.Fprintf(&s, "d%d %d\n", old-gone+1, gone)
		}
		if len(put) > 0 {
			fmt.Fprintf(&s, "a%d %d\n%s", old, len(put), strings.Join(put, ""))
		}
		gone, put = 0, nil
	}
	next := 0
	for _, sign := range signs {
		switch sign {
		case '-':
			old, gone = old+1, gone+1
		case '+':
			put = append(put, b[next])
			next++
		default:
			tell()
			old, next = old+1, next+1
		}
	}
	tell()
	return s.String()
}

// Promise 14.1.

func TestPrintOfTheChaptersExample(t *testing.T) {
	a, b := []string{"1\n", "2\n", "3\n"}, []string{"1\n", "x\n", "y\n"}
	checkPrint(t, rows{{1, 2, 1, 2}}.Changes(), a, b, "d2 2\na3 2\nx\ny\n", api.OK)
}

// printCase is what is done with the lines of two texts, which are those that samples.Pair makes, and the commands of it.
type printCase struct {
	name  string
	signs string
	want  string
}

// printCases are the edges of where changes may stand, and of how many lines they have.
func printCases() []printCase {
	return []printCase{
		{"no lines at all", "", ""},
		{"all is kept", "===", ""},
		{"one goes", "=-=", "d2 1\n"},
		{"two go", "=--=", "d2 2\n"},
		{"three go", "=---=", "d2 3\n"},
		{"one comes", "=+=", "a1 1\nb1\n"},
		{"two come", "=++=", "a1 2\nb1\nb2\n"},
		{"three come", "=+++=", "a1 3\nb1\nb2\nb3\n"},
		{"one for one", "=-+=", "d2 1\na2 1\nb1\n"},
		{"one for two", "=-++=", "d2 1\na2 2\nb1\nb2\n"},
		{"two for one", "=--+=", "d2 2\na3 1\nb1\n"},
		{"two for two", "=--++=", "d2 2\na3 2\nb1\nb2\n"},
		{"the first line goes", "-==", "d1 1\n"},
		{"the first lines go", "--=", "d1 2\n"},
		{"ahead of all comes one", "+==", "a0 1\nb0\n"},
		{"ahead of all come two", "++=", "a0 2\nb0\nb1\n"},
		{"the first line is another one", "-+=", "d1 1\na1 1\nb0\n"},
		{"the last line goes", "==-", "d3 1\n"},
		{"the last lines go", "=--", "d2 2\n"},
		{"behind all comes one", "==+", "a2 1\nb2\n"},
		{"behind all come two", "=++", "a1 2\nb1\nb2\n"},
		{"the last line is another one", "==-+", "d3 1\na3 1\nb2\n"},
		{"all go", "--", "d1 2\n"},
		{"the only one goes", "-", "d1 1\n"},
		{"all come", "++", "a0 2\nb0\nb1\n"},
		{"the only one comes", "+", "a0 1\nb0\n"},
		{"all are others", "--++", "d1 2\na2 2\nb0\nb1\n"},
		{"several, the first one first", "-=+=-+", "d1 1\na2 1\nb1\nd4 1\na4 1\nb3\n"},
		{"several that go", "-=-=-", "d1 1\nd3 1\nd5 1\n"},
		{"several that come", "+=+=+", "a0 1\nb0\na1 1\nb2\na2 1\nb4\n"},
		{"several that do both", "-+=-+=--++", "d1 1\na1 1\nb0\nd3 1\na3 1\nb2\nd5 2\na6 2\nb4\nb5\n"},
		{"what comes does not count", "+++++=-", "a0 5\nb0\nb1\nb2\nb3\nb4\nd2 1\n"},
		{"what goes counts", "-----=+", "d1 5\na6 1\nb1\n"},
		{"numbers of several digits", strings.Repeat("=", 98) + "--++=-", "d99 2\na100 2\nb98\nb99\nd102 1\n"},
		{"counts of several digits", strings.Repeat("-", 10), "d1 10\n"},
	}
}

func TestPrintOfEdges(t *testing.T) {
	for _, c := range printCases() {
		t.Run(c.name, func(t *testing.T) {
			a, b := samples.Pair(c.signs)
			l := samples.Script(c.signs)
			checkPrint(t, l, a, b, c.want, api.OK)
			checkPrint(t, l, samples.Unfed(a), b, c.want, api.OK)
			want := c.want
			if strings.HasSuffix(c.signs, "+") {
				want = strings.TrimSuffix(want, "\n")
			}
			checkPrint(t, l, a, samples.Unfed(b), want, api.OK)
		})
	}
}

func TestPrintOfOddLines(t *testing.T) {
	for _, c := range []struct {
		name  string
		signs string
		a, b  []string
		want  string
	}{
		{"what looks like commands comes", "=++", []string{"1\n"}, []string{"1\n", "d1 1\n", "a0 1\n"}, "a1 2\nd1 1\na0 1\n"},
		{"what looks like commands goes", "--", []string{"d1 1\n", "a0 1\n"}, nil, "d1 2\n"},
		{"what looks like commands is kept", "=-=", []string{"d1 1\n", "x\n", "a0 1\n"}, []string{"d1 1\n", "a0 1\n"}, "d2 1\n"},
		{"empty lines come", "++", nil, []string{"\n", "\n"}, "a0 2\n\n\n"},
		{"an empty line goes", "-", []string{"\n"}, nil, "d1 1\n"},
		{"one without its feed comes", "=+", []string{"1\n"}, []string{"1\n", "2"}, "a1 1\n2"},
		{"the last of two that come lacks its feed", "++", nil, []string{"1\n", "2"}, "a0 2\n1\n2"},
		{"one without its feed in another's place", "-+", []string{"1\n"}, []string{"1"}, "d1 1\na1 1\n1"},
		{"one with its feed in another's place", "-+", []string{"1"}, []string{"1\n"}, "d1 1\na1 1\n1\n"},
		{"one without its feed is kept", "-=", []string{"1\n", "2"}, []string{"2"}, "d1 1\n"},
		{"one without its feed is kept, and nothing is changed", "==", []string{"1\n", "2"}, []string{"1\n", "2"}, ""},
		{"one without its feed goes", "=-", []string{"1\n", "2"}, []string{"1\n"}, "d2 1\n"},
		{"dots and marks", "+++", nil, []string{".\n", "..\n", "\\ No newline at end of file\n"}, "a0 3\n.\n..\n\\ No newline at end of file\n"},
	} {
		t.Run(c.name, func(t *testing.T) { checkPrint(t, samples.Script(c.signs), c.a, c.b, c.want, api.OK) })
	}
}

// Lines are told as they are: they may be no lines at all.
func TestPrintOfAnyLines(t *testing.T) {
	for _, line := range []string{"", "\n", "\n\n", "a\nb", "a\nb\n", "a\r\n", "a\r", "\x00\n", "\xff\xfe", "d1 1\n", "\n.\n"} {
		checkPrint(t, samples.Script("+"), nil, []string{line}, "a0 1\n"+line, api.OK)
		checkPrint(t, samples.Script("+++"), nil, []string{line, line, line}, "a0 3\n"+line+line+line, api.OK)
		checkPrint(t, samples.Script("-+="), []string{line, line}, []string{line, line}, "d1 1\na1 1\n"+line, api.OK)
		checkPrint(t, samples.Script("-"), []string{line}, nil, "d1 1\n", api.OK)
		checkPrint(t, samples.Script("+=+=-"), []string{line, "x", line}, []string{line, line, line, "x"}, "a0 1\n"+line+"a1 1\n"+line+"d3 1\n", api.OK)
	}
	for c := range 256 {
		line := string([]byte{byte(c)})
		checkPrint(t, samples.Script("-+"), []string{"x\n"}, []string{line}, "d1 1\na1 1\n"+line, api.OK)
	}
}

// What the old lines are is not asked, only how many there are.
func TestPrintOfAllShortTexts(t *testing.T) {
	samples.Texts("=-+", 8, func(signs string) {
		l := samples.Script(signs)
		a, b := samples.Pair(signs)
		checkPrint(t, l, a, b, printByWords(signs, b), api.OK)
		checkPrint(t, l, make([]string, len(a)), samples.Unfed(b), printByWords(signs, samples.Unfed(b)), api.OK)
	})
}

// More changes and lines than may be compared, a longer text than may be run.
func TestPrintHasNoLimit(t *testing.T) {
	for _, signs := range []string{
		strings.Repeat("-=+=-+=", api.MaxHunks/2),
		strings.Repeat("-", 3*api.MaxLines) + strings.Repeat("+", 3*api.MaxLines),
	} {
		a, b := samples.Pair(signs)
		checkPrint(t, samples.Script(signs), a, b, printByWords(signs, b), api.OK)
	}
	long := strings.Repeat("x", api.MaxText) + "\n"
	checkPrint(t, samples.Script("-+"), []string{long}, []string{long}, "d1 1\na1 1\n"+long, api.OK)
}

func TestPrintOfWrongScripts(t *testing.T) {
	a, b := samples.Pair("====")
	for _, l := range samples.WrongScripts() {
		checkPrint(t, l, a, b, "", api.ErrScript)
		checkPrint(t, l, a, samples.Unfed(b), "", api.ErrScript)
	}
	right := rows{{0, 1, 0, 1}}.Changes()
	checkPrint(t, right, a, b, "d1 1\na1 1\nb0\n", api.OK)
	checkPrint(t, right, a, b[1:], "", api.ErrScript)
	checkPrint(t, right, a[1:], b, "", api.ErrScript)
	checkPrint(t, right, nil, nil, "", api.ErrScript)
	// What is wrong may stand behind changes that are right.
	checkPrint(t, append(right, rows{{2, 0, 2, 0}}.Changes()...), a, b, "", api.ErrScript)
	checkPrint(t, append(right, rows{{2, 3, 2, 3}}.Changes()...), a, b, "", api.ErrScript)
	checkPrint(t, nil, a, b[1:], "", api.ErrScript)
	checkPrint(t, nil, nil, b, "", api.ErrScript)
	checkPrint(t, nil, a, nil, "", api.ErrScript)
	checkPrint(t, nil, a, b, "", api.OK)
	checkPrint(t, []api.Change{}, nil, nil, "", api.OK)
}

package views_test

import (
	"fmt"
	"math"
	"strings"
	"testing"

	"redline/api"
	"redline/samples"
	"redline/views"
)

type rows = samples.Rows

// told is something as it is told, of a long one its beginning.
func told(x any) string {
	return fmt.Sprintf("%.300s", fmt.Sprintf("%+q", x))
}

// checkSide holds Side against what it must answer.
func checkSide(t *testing.T, l []api.Change, a, b []string, width int, want string, code api.Errno) {
	t.Helper()
	text, err := views.Side(l, a, b, width)
	if text != want || err != code {
		t.Errorf("%s of %s and %s, width %d: %s, %d, want %s, %d", told(l), told(a), told(b), width, told(text), err, told(want), code)
	}
}

// rowByWords is a row, each byte laid at its column.
func rowByWords(left string, sign byte, right string, width int) string {
	row := []byte(strings.Repeat(" ", 2*width+3))
	row[width+1] = sign
	lay := func(at int, line string) {
		column := 0
		for _, c := range []byte(strings.TrimSuffix(line, "\n")) {
			if c == '\t' {
				column += 8 - column%8
				continue
			}
			if column < width {
				row[at+column] = c
			}
			column++
		}
	}
	lay(0, left)
	lay(width+3, right)
	end := len(row)
	for end > 0 && row[end-1] == ' ' {
		end--
	}
	return string(row[:end]) + "\n"
}

// sideByWords is the rows of what signs say, sign by sign: the lines of a change are gathered, and told where it ends.
func sideByWords(signs string, a, b []string, width int) string {
	var s strings.Builder
	var gone, come []string
	tell := func() {
		for len(gone) > 0 || len(come) > 0 {
			switch {
			case len(come) == 0:
				s.WriteString(rowByWords(gone[0], '<', "", width))
				gone = gone[1:]
			case len(gone) == 0:
				s.WriteString(rowByWords("", '>', come[0], width))
				come = come[1:]
			default:
				s.WriteString(rowByWords(gone[0], '|', come[0], width))
				gone, come = gone[1:], come[1:]
			}
		}
	}
	for _, sign := range signs {
		switch sign {
		case '-':
			gone, a = append(gone, a[0]), a[1:]
		case '+':
			come, b = append(come, b[0]), b[1:]
		default:
			tell()
			s.WriteString(rowByWords(a[0], ' ', b[0], width))
			a, b = a[1:], b[1:]
		}
	}
	tell()
	return s.String()
}

// Promise 17.1.

func TestSideOfTheChaptersExample(t *testing.T) {
	a, b := []string{"1\n", "2\n", "3\n"}, []string{"1\n", "x\n"}
	checkSide(t, rows{{1, 2, 1, 1}}.Changes(), a, b, 3, "1     1\n2   | x\n3   <\n", api.OK)
}

// The lines are those that samples.Pair makes: those that are kept are not the same in both.
func TestSideOfEdges(t *testing.T) {
	for _, c := range []struct {
		name  string
		signs string
		want  string
	}{
		{"no lines at all", "", ""},
		{"one is kept", "=", "a0    b0\n"},
		{"all are kept", "===", "a0    b0\na1    b1\na2    b2\n"},
		{"no new lines", "--", "a0  <\na1  <\n"},
		{"no old lines", "++", "    > b0\n    > b1\n"},
		{"the only one goes", "-", "a0  <\n"},
		{"the only one comes", "+", "    > b0\n"},
		{"one for one", "-+", "a0  | b0\n"},
		{"one goes", "=-=", "a0    b0\na1  <\na2    b1\n"},
		{"two go", "=--=", "a0    b0\na1  <\na2  <\na3    b1\n"},
		{"one comes", "=+=", "a0    b0\n    > b1\na1    b2\n"},
		{"two come", "=++=", "a0    b0\n    > b1\n    > b2\na1    b3\n"},
		{"one for one between", "=-+=", "a0    b0\na1  | b1\na2    b2\n"},
		{"two for two", "=--++=", "a0    b0\na1  | b1\na2  | b2\na3    b3\n"},
		{"one for two", "=-++=", "a0    b0\na1  | b1\n    > b2\na2    b3\n"},
		{"two for one", "=--+=", "a0    b0\na1  | b1\na2  <\na3    b2\n"},
		{"one for three", "-+++", "a0  | b0\n    > b1\n    > b2\n"},
		{"three for one", "---+", "a0  | b0\na1  <\na2  <\n"},
		{"two for three", "--+++", "a0  | b0\na1  | b1\n    > b2\n"},
		{"three for two", "---++", "a0  | b0\na1  | b1\na2  <\n"},
		{"at the front", "-==", "a0  <\na1    b0\na2    b1\n"},
		{"at the end", "==+", "a0    b0\na1    b1\n    > b2\n"},
		{"several", "-=+=-+", "a0  <\na1    b0\n    > b1\na2    b2\na3  | b3\n"},
		{"several of all kinds", "--+=-++=+==-", "a0  | b0\na1  <\na2    b1\na3  | b2\n    > b3\na4    b4\n    > b5\na5    b6\na6    b7\na7  <\n"},
	} {
		t.Run(c.name, func(t *testing.T) {
			a, b := samples.Pair(c.signs)
			l := samples.Script(c.signs)
			checkSide(t, l, a, b, 3, c.want, api.OK)
			checkSide(t, l, samples.Unfed(a), b, 3, c.want, api.OK)
			checkSide(t, l, a, samples.Unfed(b), 3, c.want, api.OK)
			if want := sideByWords(c.signs, a, b, 3); want != c.want {
				t.Errorf("by words: %q", want)
			}
		})
	}
}

func TestSideOfWidths(t *testing.T) {
	a, b := []string{"abc\n", "d\n"}, []string{"xyz\n", "d\n", "e"}
	const signs = "-+=+"
	l := samples.Script(signs)
	for _, width := range []int{0, -1, -2, -200, 201, 202, 1000, math.MinInt, math.MaxInt, math.MinInt + 1, 1 << 32, 1<<32 + 1, -1<<32 + 1} {
		checkSide(t, l, a, b, width, "", api.ErrRange)
		checkSide(t, nil, nil, nil, width, "", api.ErrRange)
	}
	far := strings.Repeat(" ", 200)
	checkSide(t, l, a, b, 1, "a | x\nd   d\n  > e\n", api.OK)
	checkSide(t, l, a, b, 2, "ab | xy\nd    d\n   > e\n", api.OK)
	checkSide(t, l, a, b, 3, "abc | xyz\nd     d\n    > e\n", api.OK)
	checkSide(t, l, a, b, 4, "abc  | xyz\nd      d\n     > e\n", api.OK)
	checkSide(t, l, a, b, 200, "abc"+far[3:]+" | xyz\nd"+far[1:]+"   d\n"+far+" > e\n", api.OK)
	line := strings.Repeat("0123456789", 21)
	for width := range 206 {
		if width == 0 || width > 200 {
			checkSide(t, l, a, b, width, "", api.ErrRange)
			continue
		}
		checkSide(t, l, a, b, width, sideByWords(signs, a, b, width), api.OK)
		checkSide(t, samples.Script("-+"), []string{line}, []string{line + "\n"}, width, line[:width]+" | "+line[:width]+"\n", api.OK)
		checkSide(t, nil, []string{line}, []string{line + "\n"}, width, line[:width]+"   "+line[:width]+"\n", api.OK)
		checkSide(t, nil, nil, nil, width, "", api.OK)
	}
}

// Lines on the left and on the right that are shorter than the width, as long, longer, or not all letters.
func TestSideOfLines(t *testing.T) {
	for _, c := range []struct {
		name        string
		left, right string
		width       int
		kept        string
		exchanged   string
	}{
		{"shorter", "ab\n", "xy\n", 3, "ab    xy", "ab  | xy"},
		{"as long", "abc\n", "xyz\n", 3, "abc   xyz", "abc | xyz"},
		{"longer", "abcd\n", "wxyz\n", 3, "abc   wxy", "abc | wxy"},
		{"much longer on the left", "abcdefghijklm\n", "x\n", 3, "abc   x", "abc | x"},
		{"much longer on the right", "a\n", "uvwxyz0123456789\n", 3, "a     uvw", "a   | uvw"},
		{"without line feeds", "abc", "xyz", 3, "abc   xyz", "abc | xyz"},
		{"shorter, without line feeds", "a", "x", 3, "a     x", "a   | x"},
		{"longer, without line feeds", "abcd", "wxyz", 3, "abc   wxy", "abc | wxy"},
		{"without a line feed on the left", "a", "a\n", 3, "a     a", "a   | a"},
		{"without a line feed on the right", "a\n", "a", 3, "a     a", "a   | a"},
		{"empty", "\n", "\n", 3, "", "    |"},
		{"empty on the left", "\n", "x\n", 3, "      x", "    | x"},
		{"empty on the right", "a\n", "\n", 3, "a", "a   |"},
		{"nothing at all", "", "", 3, "", "    |"},
		{"blanks", "  \n", "  \n", 3, "", "    |"},
		{"blanks on the left", "  \n", "x\n", 3, "      x", "    | x"},
		{"blanks on the right", "a\n", "  \n", 3, "a", "a   |"},
		{"more blanks than are shown", "       \n", "       \n", 3, "", "    |"},
		{"blanks at the end", "a \n", "x \n", 3, "a     x", "a   | x"},
		{"blanks at the end of what is long", "abc  \n", "xyz  \n", 3, "abc   xyz", "abc | xyz"},
		{"blanks at the end, and nothing on the right", "a \n", "\n", 3, "a", "a   |"},
		{"blanks where it is cut", "a   b\n", "x   y\n", 3, "a     x", "a   | x"},
		{"blanks in front", "  a\n", "  x\n", 3, "  a     x", "  a |   x"},
		{"blanks in front of what is cut off", "   a\n", "   x\n", 3, "", "    |"},
		{"tabs", "a\tb\n", "x\ty\n", 9, "a       b   x       y", "a       b | x       y"},
		{"tabs in front", "\tb\n", "\ty\n", 9, "        b           y", "        b |         y"},
		{"tabs behind other columns", "abcdefg\th\n", "1234567\t8\n", 9, "abcdefg h   1234567 8", "abcdefg h | 1234567 8"},
		{"a tab at a column that is full", "abcdefgh\ti\n", "12345678\t9\n", 17, "abcdefgh        i   12345678        9", "abcdefgh        i | 12345678        9"},
		{"a tab is cut", "a\tb\n", "x\ty\n", 4, "a      x", "a    | x"},
		{"a tab is cut at its first column", "a\tb\n", "x\ty\n", 2, "a    x", "a  | x"},
		{"a tab is cut off", "a\tb\n", "x\ty\n", 1, "a   x", "a | x"},
		{"a tab as far as is shown", "a\tb\n", "x\ty\n", 8, "a          x", "a        | x"},
		{"a tab in front is cut", "\tb\n", "x\n", 3, "      x", "    | x"},
		{"tabs at the end", "a\t\n", "x\t\n", 9, "a           x", "a         | x"},
		{"tabs alone", "\t\t\n", "\t\n", 9, "", "          |"},
		{"other white space stays", "a\r\n", "x\v\f\r\n", 5, "a\r      x\v\f\r", "a\r    | x\v\f\r"},
		{"other white space alone", "\r\n", "\r\n", 3, "\r     \r", "\r   | \r"},
		{"bytes are counted, not letters", "ää\n", "öö\n", 4, "ää   öö", "ää | öö"},
		{"a letter is cut", "ää\n", "öö\n", 3, "ä\xc3   ö\xc3", "ä\xc3 | ö\xc3"},
		{"no letters", "\x00\xff\n", "\x80\n", 3, "\x00\xff    \x80", "\x00\xff  | \x80"},
		{"signs", "|\n", "<>\n", 3, "|     <>", "|   | <>"},
	} {
		t.Run(c.name, func(t *testing.T) {
			a, b := []string{c.left}, []string{c.right}
			checkSide(t, nil, a, b, c.width, c.kept+"\n", api.OK)
			checkSide(t, samples.Script("-+"), a, b, c.width, c.exchanged+"\n", api.OK)
			checkSide(t, samples.Script("-"), a, nil, c.width, rowByWords(c.left, '<', "", c.width), api.OK)
			checkSide(t, samples.Script("+"), nil, b, c.width, rowByWords("", '>', c.right, c.width), api.OK)
			if row := rowByWords(c.left, ' ', c.right, c.width); row != c.kept+"\n" {
				t.Errorf("by words, kept: %q", row)
			}
			if row := rowByWords(c.left, '|', c.right, c.width); row != c.exchanged+"\n" {
				t.Errorf("by words, exchanged: %q", row)
			}
		})
	}
}

// Where one side has nothing, the other one's blanks at its end go with it only on the right.
func TestSideOfLinesThatStandAlone(t *testing.T) {
	for _, c := range []struct {
		line      string
		width     int
		gone, new string
	}{
		{"\n", 2, "   <\n", "   >\n"},
		{"", 2, "   <\n", "   >\n"},
		{" \n", 2, "   <\n", "   >\n"},
		{"\t\n", 2, "   <\n", "   >\n"},
		{"a\n", 2, "a  <\n", "   > a\n"},
		{"a", 2, "a  <\n", "   > a\n"},
		{"a \n", 2, "a  <\n", "   > a\n"},
		{"ab\n", 2, "ab <\n", "   > ab\n"},
		{"abc\n", 2, "ab <\n", "   > ab\n"},
		{" a\n", 2, " a <\n", "   >  a\n"},
		{"a\tb\n", 10, "a       b  <\n", "           > a       b\n"},
	} {
		checkSide(t, samples.Script("-"), []string{c.line}, nil, c.width, c.gone, api.OK)
		checkSide(t, samples.Script("+"), nil, []string{c.line}, c.width, c.new, api.OK)
		checkSide(t, samples.Script("=--"), []string{"x\n", c.line, c.line}, []string{"x\n"}, c.width, rowByWords("x", ' ', "x", c.width)+c.gone+c.gone, api.OK)
		checkSide(t, samples.Script("++="), []string{"x\n"}, []string{c.line, c.line, "x\n"}, c.width, c.new+c.new+rowByWords("x", ' ', "x", c.width), api.OK)
	}
}

func TestSideOfAllShortScripts(t *testing.T) {
	samples.Texts("=-+", 8, func(signs string) {
		l := samples.Script(signs)
		a, b := samples.Pair(signs)
		for _, width := range []int{1, 2, 5} {
			checkSide(t, l, a, samples.Unfed(b), width, sideByWords(signs, a, b, width), api.OK)
		}
	})
}

func TestSideOfAllShortLines(t *testing.T) {
	var all []string
	samples.Lines("a \t", 3, func(line string) { all = append(all, line) })
	for _, left := range all {
		for _, right := range all {
			for _, width := range []int{1, 2, 3, 7, 8, 9, 17} {
				checkSide(t, nil, []string{left}, []string{right}, width, rowByWords(left, ' ', right, width), api.OK)
				checkSide(t, samples.Script("-+"), []string{left}, []string{right}, width, rowByWords(left, '|', right, width), api.OK)
			}
		}
	}
}

// Lines are shown as they are: they may be no lines at all.
func TestSideOfAnyLines(t *testing.T) {
	odd := []string{"", "\n", "\n\n", "a\nb", "a\nb\n", "a\n\tb\n", "\n\n\n\n\n", "a\r\n", "\x00", "\xff\xfe\n"}
	for c := range 256 {
		odd = append(odd, string([]byte{byte(c)}), string([]byte{'a', byte(c), 'b', '\n'}))
	}
	for _, line := range odd {
		for _, signs := range []string{"=", "-+", "-", "+", "=-+=", "+=-"} {
			a, b := samples.Pair(signs)
			for i := range a {
				a[i] = line
			}
			for i := range b {
				b[i] = line
			}
			for _, width := range []int{1, 2, 3, 9, 200} {
				checkSide(t, samples.Script(signs), a, b, width, sideByWords(signs, a, b, width), api.OK)
			}
		}
	}
	checkSide(t, nil, []string{"a\nb\n"}, []string{"\n\n"}, 4, "a\nb    \n\n", api.OK)
}

// More changes and lines than may be compared, longer lines than may be read.
func TestSideHasNoLimit(t *testing.T) {
	for _, signs := range []string{
		strings.Repeat("-=+=-+=", api.MaxHunks/2),
		strings.Repeat("-", 3*api.MaxLines) + strings.Repeat("+", 2*api.MaxLines),
		strings.Repeat("=", 5*api.MaxLines),
	} {
		a, b := samples.Pair(signs)
		checkSide(t, samples.Script(signs), a, b, 200, sideByWords(signs, a, b, 200), api.OK)
		checkSide(t, samples.Script(signs), a, b, 1, sideByWords(signs, a, b, 1), api.OK)
	}
	for _, piece := range []string{"x", " ", "\t", "a\t", "\x00", "\n"} {
		long := strings.Repeat(piece, 4*api.MaxText)
		for _, width := range []int{1, 7, 200} {
			row := rowByWords(long[:300], '|', long[:300], width)
			checkSide(t, samples.Script("-+"), []string{long + "\n"}, []string{long + "\n"}, width, row, api.OK)
		}
	}
}

// wrongScripts hands over scripts with two texts between which they are not right.
func wrongScripts(do func(l []api.Change, a, b []string)) {
	a, b := samples.Pair("====")
	for _, l := range samples.WrongScripts() {
		do(l, a, b)
		do(l, nil, nil)
	}
	right := rows{{0, 1, 0, 1}}.Changes()
	do(right, a, b[1:])
	do(right, a[1:], b)
	do(right, nil, nil)
	// What is wrong may stand behind changes that are right.
	do(append(right, rows{{2, 0, 2, 0}}.Changes()...), a, b)
	do(append(right, rows{{2, 3, 2, 3}}.Changes()...), a, b)
	do(nil, a, b[1:])
	do(nil, nil, b)
	do(nil, a, nil)
}

// A script that is not right is told ahead of a width that is none.
func TestSideOfWrongScripts(t *testing.T) {
	for _, width := range []int{3, 1, 200, 0, 201, -1, math.MaxInt, math.MinInt} {
		wrongScripts(func(l []api.Change, a, b []string) { checkSide(t, l, a, b, width, "", api.ErrScript) })
	}
	a, b := samples.Pair("====")
	checkSide(t, rows{{0, 1, 0, 1}}.Changes(), a, b, 3, "a0  | b0\na1    b1\na2    b2\na3    b3\n", api.OK)
	checkSide(t, []api.Change{}, []string{}, []string{}, 3, "", api.OK)
}

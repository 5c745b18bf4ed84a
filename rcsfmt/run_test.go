package rcsfmt_test

import (
	"regexp"
	"slices"
	"strconv"
	"strings"
	"testing"

	"redline/api"
	"redline/rcsfmt"
	"redline/samples"
)

// checkRun holds Run of right commands against the lines that it must answer.
func checkRun(t *testing.T, text string, a, want []string) {
	t.Helper()
	l, err := rcsfmt.Run(text, a)
	if err != nil || !slices.Equal(l, want) {
		t.Errorf("%s with %s: %s, %v, want %s", told(text), told(a), told(l), err, told(want))
	}
}

// checkFault holds Run of wrong commands against the fault that it must answer, and nothing else.
func checkFault(t *testing.T, text string, a []string, at int, code api.Errno) {
	t.Helper()
	l, err := rcsfmt.Run(text, a)
	if len(l) != 0 || !samples.IsFault(err, at, code) {
		t.Errorf("%s with %s: %s, %v, want %d: error %d", told(text), told(a), told(l), err, at, code)
	}
}

// words is what commands name, by the chapter's words: nothing is made as long as they are read.
type words struct {
	count int              // of the old text's lines
	last  int              // the line at which the command ahead has ended or put in
	gone  map[int]bool     // the lines that are taken out
	put   map[int][]string // what is put in, by the number of the line ahead of it
}

// form is a command with its line feed, but for what its numbers may be.
var form = regexp.MustCompile(`^([ad])(0|[1-9][0-9]*) (0|[1-9][0-9]*)\n$`)

// taken is the letter and the numbers of a command, and whether it is one.
func taken(line string) (letter string, first, count int, right bool) {
	parts := form.FindStringSubmatch(line)
	if parts == nil {
		return "", 0, 0, false
	}
	p, errP := strconv.ParseUint(parts[2], 10, 31)
	n, errN := strconv.ParseUint(parts[3], 10, 31)
	if errP != nil || errN != nil || n == 0 || p == 0 && parts[1] == "d" {
		return "", 0, 0, false
	}
	return parts[1], int(p), int(n), true
}

// name notes what a command names, behind which the lines follow that are left; it tells how many of them are its own.
func (w *words) name(line string, left []string) (int, api.Errno) {
	letter, first, count, right := taken(line)
	if !right {
		return 0, api.ErrText
	}
	if letter == "d" {
		end := first + count - 1
		if first <= w.last {
			return 0, api.ErrOrder
		}
		if end > w.count {
			return 0, api.ErrRange
		}
		for i := first; i <= end; i++ {
			w.gone[i] = true
		}
		w.last = end
		return 0, api.OK
	}
	if _, already := w.put[first]; already || first < w.last {
		return 0, api.ErrOrder
	}
	if first > w.count {
		return 0, api.ErrRange
	}
	if len(left) < count {
		return 0, api.ErrShort
	}
	w.put[first], w.last = left[:count], first
	return count, api.OK
}

// isRight tells whether lines are those of some text.
func isRight(l []string) bool {
	return slices.Equal(l, slices.Collect(strings.Lines(strings.Join(l, ""))))
}

// runByWords is the lines that commands make, or the place and the number of the fault.
func runByWords(text string, a []string) ([]string, int, api.Errno) {
	if len(text) > 1<<20 {
		return nil, 0, api.ErrLong
	}
	w := words{count: len(a), gone: map[int]bool{}, put: map[int][]string{}}
	all := slices.Collect(strings.Lines(text))
	for i := 0; i < len(all); i++ {
		own, code := w.name(all[i], all[i+1:])
		if code == api.ErrShort {
			return nil, len(all) + 1, code
		}
		if code != api.OK {
			return nil, i + 1, code
		}
		i += own
	}
	made := slices.Clone(w.put[0])
	for i, line := range a {
		if !w.gone[i+1] {
			made = append(made, line)
		}
		made = append(made, w.put[i+1]...)
	}
	if !isRight(made) {
		return nil, len(all) + 1, api.ErrField
	}
	return made, 0, api.OK
}

// checkByWords holds Run of any text against the chapter's words.
func checkByWords(t *testing.T, text string, a []string) {
	t.Helper()
	want, at, code := runByWords(text, a)
	if code == api.OK {
		checkRun(t, text, a, want)
		return
	}
	checkFault(t, text, a, at, code)
}

// numbered is n lines that are their numbers, which most commands are tried with.
func numbered(n int) []string {
	var l []string
	for i := range n {
		l = append(l, strconv.Itoa(i+1)+"\n")
	}
	return l
}

// Promise 14.2.

func TestRunOfTheChaptersExamples(t *testing.T) {
	checkRun(t, "d2 2\na3 2\nx\ny\n", numbered(3), []string{"1\n", "x\n", "y\n"})
	checkRun(t, "a0 1\nx", nil, []string{"x"})
	checkFault(t, "a0 1\nx", numbered(1), 3, api.ErrField)
	checkFault(t, "d2 1\nd1 1\n", numbered(2), 2, api.ErrOrder)
	checkFault(t, "d3 1\n", numbered(2), 1, api.ErrRange)
	checkFault(t, "a1 2\nx\n", numbered(1), 3, api.ErrShort)
}

func TestRunOfRightCommands(t *testing.T) {
	for _, c := range []struct {
		name string
		text string
		want string // the lines behind one another
	}{
		{"none", "", "1\n2\n3\n4\n"},
		{"ahead of all", "a0 1\nx\n", "x\n1\n2\n3\n4\n"},
		{"behind the first line", "a1 1\nx\n", "1\nx\n2\n3\n4\n"},
		{"behind all", "a4 1\nx\n", "1\n2\n3\n4\nx\n"},
		{"behind all, without a feed", "a4 1\nx", "1\n2\n3\n4\nx"},
		{"behind all, several, the last one without a feed", "a4 2\nx\ny", "1\n2\n3\n4\nx\ny"},
		{"several come", "a2 3\nx\ny\nz\n", "1\n2\nx\ny\nz\n3\n4\n"},
		{"the first line goes", "d1 1\n", "2\n3\n4\n"},
		{"the first lines go", "d1 2\n", "3\n4\n"},
		{"one goes", "d2 1\n", "1\n3\n4\n"},
		{"several go", "d2 2\n", "1\n4\n"},
		{"the last line goes", "d4 1\n", "1\n2\n3\n"},
		{"the last lines go", "d3 2\n", "1\n2\n"},
		{"all go", "d1 4\n", ""},
		{"all go one by one", "d1 1\nd2 1\nd3 1\nd4 1\n", ""},
		{"all go and others come behind them", "d1 4\na4 1\nx\n", "x\n"},
		{"all go and others come ahead of them", "a0 1\nx\nd1 4\n", "x\n"},
		{"others come ahead of all and behind all, which go", "a0 1\nx\nd1 4\na4 1\ny", "x\ny"},
		{"one for one", "d2 1\na2 1\nx\n", "1\nx\n3\n4\n"},
		{"one for two", "d2 1\na2 2\nx\ny\n", "1\nx\ny\n3\n4\n"},
		{"two for one", "d2 2\na3 1\nx\n", "1\nx\n4\n"},
		{"one that comes ahead of one that goes", "a1 1\nx\nd2 1\n", "1\nx\n3\n4\n"},
		{"numbers are those of the old text", "d1 1\nd3 1\na4 1\nx\n", "2\n4\nx\n"},
		{"numbers are those of the old text, where lines came", "a0 3\nx\ny\nz\nd1 1\na2 1\nu\nd4 1\n", "x\ny\nz\n2\nu\n3\n"},
		{"behind each line", "a0 1\nv\na1 1\nw\na2 1\nx\na3 1\ny\na4 1\nz\n", "v\n1\nw\n2\nx\n3\ny\n4\nz\n"},
		{"each line is another one", "d1 1\na1 1\nw\nd2 1\na2 1\nx\nd3 1\na3 1\ny\nd4 1\na4 1\nz\n", "w\nx\ny\nz\n"},
		{"lines that are commands come", "a1 3\nd1 1\na0 1\nd9 9\nd3 1\n", "1\nd1 1\na0 1\nd9 9\n2\n4\n"},
		{"empty lines come", "a1 2\n\n\na2 1\n\n", "1\n\n\n2\n\n3\n4\n"},
		{"what is no command comes", "a4 4\nx\n.\n\x00\xff\r\n\\ No newline at end of file", "1\n2\n3\n4\nx\n.\n\x00\xff\r\n\\ No newline at end of file"},
		{"a command without its feed comes", "d1 4\na4 1\nd1 1", "d1 1"},
	} {
		t.Run(c.name, func(t *testing.T) {
			checkRun(t, c.text, numbered(4), slices.Collect(strings.Lines(c.want)))
			checkByWords(t, c.text, numbered(4))
			checkByWords(t, c.text, samples.Unfed(numbered(4)))
			checkByWords(t, c.text, numbered(5))
			checkByWords(t, c.text, numbered(3))
			checkByWords(t, c.text, nil)
		})
	}
	for c := range 256 {
		if line := string([]byte{byte(c), '\n'}); c != '\n' {
			checkRun(t, "d1 1\na1 1\n"+line, numbered(2), []string{line, "2\n"})
			checkRun(t, "a2 1\nx"+line, numbered(2), []string{"1\n", "2\n", "x" + line})
			checkRun(t, "a2 1\n"+line[:1], numbered(2), []string{"1\n", "2\n", line[:1]})
		}
	}
}

// What stands behind commands whose lines they name: in order, or not.
func TestRunOfOrder(t *testing.T) {
	a := numbered(6)
	for _, c := range []struct {
		name  string
		ahead string // the commands ahead, of which all is right
		next  string // a command behind them
		want  api.Errno
	}{
		{"d behind nothing", "", "d1 1\n", api.OK},
		{"d behind d, at the line behind it", "d2 2\n", "d4 1\n", api.OK},
		{"d behind d, further on", "d2 2\n", "d5 1\n", api.OK},
		{"d behind d, at its last line", "d2 2\n", "d3 1\n", api.ErrOrder},
		{"d behind d, at its only line", "d2 1\n", "d2 1\n", api.ErrOrder},
		{"d behind d, at its first line", "d2 2\n", "d2 1\n", api.ErrOrder},
		{"d behind d, ahead of it", "d2 2\n", "d1 1\n", api.ErrOrder},
		{"d behind d, up to its end and further on", "d2 2\n", "d1 5\n", api.ErrOrder},
		{"d behind a, at the line behind which it put in", "a2 1\nx\n", "d2 1\n", api.ErrOrder},
		{"d behind a, at that line and further on", "a2 1\nx\n", "d2 3\n", api.ErrOrder},
		{"d behind a, at the next line", "a2 1\nx\n", "d3 1\n", api.OK},
		{"d behind a, further on", "a2 1\nx\n", "d4 3\n", api.OK},
		{"d behind a, ahead of it", "a2 1\nx\n", "d1 1\n", api.ErrOrder},
		{"d behind a ahead of all", "a0 1\nx\n", "d1 1\n", api.OK},
		{"a behind nothing, ahead of all", "", "a0 1\ny\n", api.OK},
		{"a behind d, at its last line", "d2 2\n", "a3 1\ny\n", api.OK},
		{"a behind d, further on", "d2 2\n", "a4 1\ny\n", api.OK},
		{"a behind d, within it", "d2 2\n", "a2 1\ny\n", api.ErrOrder},
		{"a behind d, at the line ahead of it", "d2 2\n", "a1 1\ny\n", api.ErrOrder},
		{"a behind d, ahead of all", "d1 1\n", "a0 1\ny\n", api.ErrOrder},
		{"a behind d, at its only line", "d1 1\n", "a1 1\ny\n", api.OK},
		{"a behind a, at the same line", "a2 1\nx\n", "a2 1\ny\n", api.ErrOrder},
		{"a behind a, ahead of it", "a2 1\nx\n", "a1 1\ny\n", api.ErrOrder},
		{"a behind a, further on", "a2 1\nx\n", "a3 1\ny\n", api.OK},
		{"a behind a, both ahead of all", "a0 1\nx\n", "a0 1\ny\n", api.ErrOrder},
		{"a behind a, both behind all", "a6 1\nx\n", "a6 1\ny\n", api.ErrOrder},
		{"a behind d and a at that d's end", "d2 2\na3 1\nx\n", "a3 1\ny\n", api.ErrOrder},
		{"a behind d and a further on", "d2 2\na3 1\nx\n", "a4 1\ny\n", api.OK},
		{"d behind d and a at that d's end", "d2 2\na3 1\nx\n", "d4 1\n", api.OK},
		{"d behind d and a, at that d's end", "d2 2\na3 1\nx\n", "d3 1\n", api.ErrOrder},
		{"a behind a and d, at the d's end", "a2 1\nx\nd3 1\n", "a3 1\ny\n", api.OK},
		{"a behind a and d, at that a's line", "a2 1\nx\nd3 1\n", "a2 1\ny\n", api.ErrOrder},
		{"a behind a and d ahead of all, at the d's end", "a0 1\nx\nd1 1\n", "a1 1\ny\n", api.OK},
		{"a behind a and d ahead of all, ahead of all", "a0 1\nx\nd1 1\n", "a0 1\ny\n", api.ErrOrder},
		{"a behind a line that came and looks like an a", "a1 2\nx\na2 1\n", "a2 1\ny\n", api.OK},
		{"d behind a line that came and looks like a d", "a1 1\nd4 1\n", "d2 1\n", api.OK},
		{"out of order, and behind all lines", "d2 1\n", "d1 99\n", api.ErrOrder},
		{"out of order, and with fewer lines behind", "d2 1\n", "a1 9\nx\n", api.ErrOrder},
		{"out of order in a text whose last line is named", "d6 1\n", "d6 9\n", api.ErrOrder},
	} {
		t.Run(c.name, func(t *testing.T) {
			if _, err := rcsfmt.Run(c.ahead, a); err != nil {
				t.Fatalf("%s: %v", told(c.ahead), err)
			}
			checkByWords(t, c.ahead+c.next, a)
			if c.want == api.OK {
				if _, err := rcsfmt.Run(c.ahead+c.next, a); err != nil {
					t.Errorf("%s: %v", told(c.ahead+c.next), err)
				}
				return
			}
			at := strings.Count(c.ahead, "\n") + 1
			checkFault(t, c.ahead+c.next, a, at, c.want)
			checkFault(t, c.ahead+c.next+"x\n", a, at, c.want)
		})
	}
}

// notCommands are lines that are no commands, whatever is there.
func notCommands() []string {
	return []string{
		"", " ", "  ", "a", "d", "x", ".", "1", "1 1", "0", "12", "-", "\x00", "\xff", "hello", "\\ No newline at end of file", "< a", "1d0", "0a1", "1,2d", "1d", "0a", "s/.//", "@@ -1 +1 @@",
		"c1 1", "D1 1", "A1 1", "b1 1", "e1 1", "x1 1", "i1 1", " 1 1", "11 1", "01 1", "-1 1", "\x001 1", "\xc3\xa41 1", "aa1 1", "ad1 1", "da1 1", "dd1 1", "d d1 1",
		"d1", "a1", "d11", "a01", "d1\t1", "a1\t1", "d1,1", "a1,1", "d1-1", "d1.1", "a1\x001", "a1\u00a01",
		"d1  1", "a1  1", "d 1 1", "a 1 1", "a 0 1", " d1 1", " a1 1", "d1 1 ", "a1 1 ", "d1 1  ", "a1 1\t", "d1 1\r", "a1 1\r", "d1 1\x00", "\td1 1", "d1 1 1", "a1 1 1", "d1 1 x", "a1 1x", "d1 1d", "d1x 1", "a1a 1",
		"d", "d ", "a ", "d 1", "a 1", "d1 ", "a1 ", "d  ", "a  ",
		"d01 1", "a01 1", "d1 01", "a1 01", "d001 1", "a00 1", "a0 01", "d1 001", "d00 1",
		"d0 1", "d0 2", "d0 0", "d1 0", "a1 0", "a0 0", "d1 00", "a0 00", "d2147483647 0", "a2147483647 0",
		"d-1 1", "a-1 1", "d+1 1", "a+1 1", "d1 -1", "a1 +1", "a-0 1", "d1 1.0", "d1.0 1", "d1e0 1", "d1 1e0", "a0x1 1", "a1 0x1", "d1_0 1", "d1 1_0", "d\"1\" 1", "a\uff11 1", "a1 \u0661",
		"d2147483648 1", "a2147483648 1", "d1 2147483648", "a1 2147483648", "d4294967297 1", "a4294967296 1", "d1 4294967297", "a0 4294967297",
		"d9223372036854775807 1", "d9223372036854775808 1", "a9223372036854775808 1", "d1 9223372036854775807", "a0 9223372036854775808", "d18446744073709551617 1", "a18446744073709551616 1", "a0 18446744073709551617", "d1 18446744073709551617",
		"d99999999999999999999 1", "a99999999999999999999 1", "d1 99999999999999999999", "a1 99999999999999999999",
		"d" + strings.Repeat("9", 400) + " 1", "a0 " + strings.Repeat("9", 400), "a" + strings.Repeat("0", 400) + " 1", "d1 1" + strings.Repeat("0", 400),
	}
}

func TestRunOfWhatIsNoCommand(t *testing.T) {
	for _, line := range notCommands() {
		for _, a := range [][]string{nil, numbered(1), numbered(4)} {
			checkFault(t, line+"\n", a, 1, api.ErrText)
			checkFault(t, line+"\nx\n", a, 1, api.ErrText)
			checkFault(t, line+"\nd1 1\n", a, 1, api.ErrText)
			checkFault(t, "a0 1\nx\n"+line+"\n", a, 3, api.ErrText)
		}
		checkFault(t, "d1 4\n"+line+"\n", numbered(4), 2, api.ErrText)
		checkFault(t, "a4 1\nx\n"+line+"\nx\n", numbered(4), 3, api.ErrText)
		if line != "" {
			checkFault(t, line, numbered(4), 1, api.ErrText)
			checkFault(t, "d1 1\n"+line, numbered(4), 2, api.ErrText)
			checkFault(t, "a0 1\nx\n"+line, numbered(4), 3, api.ErrText)
			checkRun(t, "d4 1\na4 1\n"+line, numbered(4), []string{"1\n", "2\n", "3\n", line})
		}
		checkRun(t, "d1 1\na1 1\n"+line+"\n", numbered(2), []string{line + "\n", "2\n"})
	}
	for _, line := range []string{"d1 1", "d4 1", "d2 2", "a0 1", "a4 1", "a1 2"} {
		checkFault(t, line, numbered(4), 1, api.ErrText)
		checkFault(t, line+"\x00", numbered(4), 1, api.ErrText)
	}
	checkFault(t, "d1 1\nd2 1", numbered(4), 2, api.ErrText)
	checkFault(t, "a0 1\nx\na1 1", numbered(4), 3, api.ErrText)
}

// Numbers up to that of all lines, and above.
func TestRunOfNumbers(t *testing.T) {
	const top = "2147483647"
	x := []string{"x\n"}
	for n := range 5 {
		a := numbered(n)
		all, more := strconv.Itoa(n), strconv.Itoa(n+1)
		checkRun(t, "a0 1\nx\n", a, slices.Concat(x, a))
		checkRun(t, "a"+all+" 1\nx\n", a, slices.Concat(a, x))
		checkFault(t, "d0 1\n", a, 1, api.ErrText)
		for _, line := range []string{
			"a" + more + " 1", "a" + top + " 1", "a" + more + " " + top, "a" + top + " " + top, "a2147483646 1",
			"d" + more + " 1", "d" + top + " 1", "d" + more + " " + top, "d" + top + " " + top, "d1 " + more, "d1 " + top, "d2147483646 2", "d2147483646 1",
		} {
			checkFault(t, line+"\n", a, 1, api.ErrRange)
			checkFault(t, line+"\nx\n", a, 1, api.ErrRange)
			checkFault(t, "a0 1\nx\n"+line+"\n", a, 3, api.ErrRange)
			checkFault(t, line, a, 1, api.ErrText)
		}
		for first := 1; first <= n; first++ {
			for count := range n - first + 2 {
				if line := "d" + strconv.Itoa(first) + " " + strconv.Itoa(count) + "\n"; count > 0 {
					checkRun(t, line, a, slices.Concat(a[:first-1], a[first-1+count:]))
				}
			}
			checkFault(t, "d"+strconv.Itoa(first)+" "+strconv.Itoa(n-first+2)+"\n", a, 1, api.ErrRange)
			checkFault(t, "d"+strconv.Itoa(first)+" "+top+"\n", a, 1, api.ErrRange)
		}
		// Which lines there are is asked of the old text, however many go or come.
		if n > 0 {
			checkRun(t, "a0 1\nx\nd"+all+" 1\n", a, slices.Concat(x, a[:n-1]))
			checkFault(t, "d1 "+all+"\nd"+more+" 1\n", a, 2, api.ErrRange)
			checkFault(t, "d1 "+all+"\na"+more+" 1\nx\n", a, 2, api.ErrRange)
			checkRun(t, "d1 "+all+"\na"+all+" 1\nx\n", a, x)
		}
		checkFault(t, "a0 3\nx\ny\nz\nd"+more+" 1\n", a, 5, api.ErrRange)
	}
}

// As many lines follow an a as it says, or fewer.
func TestRunOfLinesThatFollow(t *testing.T) {
	a := numbered(2)
	for _, c := range []struct {
		name string
		text string
		at   int
		code api.Errno
	}{
		{"as many", "a2 2\nx\ny\n", 0, api.OK},
		{"as many, the last one without its feed", "a2 2\nx\ny", 0, api.OK},
		{"none", "a2 1\n", 2, api.ErrShort},
		{"none of several", "a2 9\n", 2, api.ErrShort},
		{"one fewer", "a2 2\nx\n", 3, api.ErrShort},
		{"one fewer, the last one without its feed", "a2 2\nx", 3, api.ErrShort},
		{"two fewer", "a2 3\nx\n", 3, api.ErrShort},
		{"fewer ahead of all", "a0 2\nx\n", 3, api.ErrShort},
		{"as many as may be said", "a2 2147483647\nx\ny\n", 4, api.ErrShort},
		{"fewer, of commands", "a0 5\nd1 1\nd2 1\n", 4, api.ErrShort},
		{"fewer, of what is no command", "a0 5\n\nx\n\n", 5, api.ErrShort},
		{"fewer behind other commands", "d1 1\na1 1\nx\na2 2\ny\n", 6, api.ErrShort},
		{"one more, which is no command", "a2 1\nx\ny\n", 3, api.ErrText},
		{"one more, without its feed", "a2 1\nx\nd1 1", 3, api.ErrText},
		{"one more, which is empty", "a2 1\nx\n\n", 3, api.ErrText},
		{"commands behind them", "a0 2\nx\ny\nd1 1\na2 1\nz\n", 0, api.OK},
		{"commands behind them, the last line without its feed", "a0 2\nx\ny\nd1 1\na2 1\nz", 0, api.OK},
		{"commands behind them that are wrong", "a0 2\nx\ny\nd3 1\n", 4, api.ErrRange},
		{"the last one without its feed is not the last that is made", "a0 1\nx", 3, api.ErrField},
		{"the last of several without its feed is not the last that is made", "d1 1\na1 2\nx\ny", 5, api.ErrField},
		{"the last one without its feed, and lines behind it that are gone ahead", "d1 2\na2 1\nx", 0, api.OK},
	} {
		t.Run(c.name, func(t *testing.T) {
			checkByWords(t, c.text, a)
			if _, at, code := runByWords(c.text, a); at != c.at || code != c.code {
				t.Errorf("by words: %d at %d", code, at)
			}
			if c.code != api.OK {
				checkFault(t, c.text, a, c.at, c.code)
			}
		})
	}
}

// The lines that are there first may be any: what is made must be right.
func TestRunWithAnyLines(t *testing.T) {
	for _, c := range []struct {
		name string
		text string
		a    []string
		want []string // none: they are not right
		at   int      // the place where that is told; 0: they are right
	}{
		{"no lines", "", nil, nil, 0},
		{"right lines", "", []string{"a\n", "b\n"}, []string{"a\n", "b\n"}, 0},
		{"the last one lacks its feed", "", []string{"a\n", "b"}, []string{"a\n", "b"}, 0},
		{"the first one lacks its feed", "", []string{"a", "b\n"}, nil, 1},
		{"an empty one", "", []string{""}, nil, 1},
		{"an empty one at the end", "", []string{"a\n", ""}, nil, 1},
		{"feeds within", "", []string{"a\nb\n"}, nil, 1},
		{"two feeds", "", []string{"\n\n"}, nil, 1},
		{"the wrong one goes", "d1 1\n", []string{"a", "b\n"}, []string{"b\n"}, 0},
		{"the wrong one is another one then", "d2 1\na2 1\nx\n", []string{"a\n", "", "b"}, []string{"a\n", "x\n", "b"}, 0},
		{"another one goes", "d2 1\n", []string{"a", "b\n", "c\n"}, nil, 2},
		{"what stood behind it goes", "d2 2\n", []string{"a", "b\n", "c\n"}, []string{"a"}, 0},
		{"one comes behind one without its feed", "a2 1\nx\n", []string{"a\n", "b"}, nil, 3},
		{"one comes ahead of one without its feed", "a1 1\nx\n", []string{"a\n", "b"}, []string{"a\n", "x\n", "b"}, 0},
		{"one comes for one without its feed", "d2 1\na2 1\nx", []string{"a\n", "b"}, []string{"a\n", "x"}, 0},
		{"one with its feed comes for one without", "d2 1\na2 1\nb\n", []string{"a\n", "b"}, []string{"a\n", "b\n"}, 0},
		{"one without its feed comes ahead of all", "a0 1\nx", []string{"a\n"}, nil, 3},
		{"one without its feed comes ahead of all that there is", "a0 1\nx", nil, []string{"x"}, 0},
		{"lines that look like commands", "d1 1\n", []string{"d1 1\n", "a0 1\n"}, []string{"a0 1\n"}, 0},
		{"a fault of the text is told first", "x\n", []string{"a", "b"}, nil, -1},
	} {
		t.Run(c.name, func(t *testing.T) {
			checkByWords(t, c.text, c.a)
			switch {
			case c.at > 0:
				checkFault(t, c.text, c.a, c.at, api.ErrField)
			case c.at == 0:
				checkRun(t, c.text, c.a, c.want)
			default:
				checkFault(t, c.text, c.a, 1, api.ErrText)
			}
		})
	}
	samples.Lists([]string{"", "\n", "a", "b\n", "a\nb", "\n\n"}, 3, func(a []string) {
		for _, text := range []string{"", "d1 1\n", "d2 1\n", "d3 1\n", "a0 1\nx\n", "a0 1\nx", "a1 1\nx", "a2 1\nx", "a3 1\nx\n", "d1 1\na1 1\nx\n", "d1 2\na3 1\nx", "a1 1\ny\nd2 1\na2 1\nx"} {
			checkByWords(t, text, a)
		}
	})
}

// The first wrong line is told, and of one that is wrong in several ways what the chapter names first.
func TestRunOfWrongTexts(t *testing.T) {
	for _, c := range []struct {
		name string
		text string
		at   int
		code api.Errno
	}{
		{"ErrText, then ErrText", "x\ny\n", 1, api.ErrText},
		{"ErrText, then ErrOrder", "d2 1\nx\nd1 1\n", 2, api.ErrText},
		{"ErrText, then ErrRange", "x\nd9 1\n", 1, api.ErrText},
		{"ErrText, then ErrShort", "x\na1 1\n", 1, api.ErrText},
		{"ErrText, then ErrField", "x\na0 1\nx", 1, api.ErrText},
		{"ErrOrder, then ErrText", "d2 1\nd1 1\nx\n", 2, api.ErrOrder},
		{"ErrOrder, then ErrOrder", "d3 1\nd2 1\nd1 1\n", 2, api.ErrOrder},
		{"ErrOrder, then ErrRange", "d2 1\nd2 1\nd9 1\n", 2, api.ErrOrder},
		{"ErrOrder, then ErrShort", "d2 1\nd2 1\na3 1\n", 2, api.ErrOrder},
		{"ErrOrder, then ErrField", "d2 1\nd2 1\na2 1\nx", 2, api.ErrOrder},
		{"ErrRange, then ErrText", "d9 1\nx\n", 1, api.ErrRange},
		{"ErrRange, then ErrOrder", "d9 1\nd1 1\n", 1, api.ErrRange},
		{"ErrRange, then ErrRange", "d9 1\nd10 1\n", 1, api.ErrRange},
		{"ErrRange, then ErrShort", "d9 1\na9 1\n", 1, api.ErrRange},
		{"ErrRange, then ErrField", "a9 1\nx", 1, api.ErrRange},
		{"ErrText and ErrOrder", "d3 1\nd01 1\n", 2, api.ErrText},
		{"ErrText and ErrOrder, without its feed", "d3 1\nd1 1", 2, api.ErrText},
		{"ErrText and ErrRange", "d9 0\n", 1, api.ErrText},
		{"ErrText and ErrRange, without its feed", "d9 1", 1, api.ErrText},
		{"ErrText and ErrShort", "a0 01\n", 1, api.ErrText},
		{"ErrText and ErrShort, without its feed", "a0 1", 1, api.ErrText},
		{"ErrOrder and ErrRange, of d", "d3 1\nd3 9\n", 2, api.ErrOrder},
		{"ErrOrder and ErrRange, of d behind a", "a3 1\nx\nd3 9\n", 3, api.ErrOrder},
		{"ErrOrder and ErrShort", "d3 1\na2 1\n", 2, api.ErrOrder},
		{"ErrOrder and ErrShort, twice at a line", "a3 1\nx\na3 1\n", 3, api.ErrOrder},
		{"ErrRange and ErrShort", "a4 1\n", 1, api.ErrRange},
		{"ErrShort and ErrField", "a0 2\nx", 3, api.ErrShort},
		{"ErrShort behind lines that are not right", "a0 1\nx\na1 9\ny", 5, api.ErrShort},
	} {
		t.Run(c.name, func(t *testing.T) {
			checkFault(t, c.text, numbered(3), c.at, c.code)
			checkByWords(t, c.text, numbered(3))
		})
	}
}

// Each line that may be a command, of a few digits, and each byte at each place of one.
func TestRunOfAllShortCommands(t *testing.T) {
	right := 0
	samples.Texts("ad012 ", 5, func(s string) {
		checkByWords(t, s+"\n", numbered(2))
		checkByWords(t, "a1 1\nx\n"+s+"\ny\nz", numbered(2))
		if _, _, _, ok := taken(s + "\n"); ok {
			right++
		}
	})
	if right < 50 {
		t.Errorf("only %d of them are commands", right)
	}
	for _, line := range []string{"d2 1", "a1 1", "a12 11", "d10 10"} {
		for i := range len(line) + 1 {
			for c := range 256 {
				b := string([]byte{byte(c)})
				checkByWords(t, line[:i]+b+line[i:]+"\nx\n", numbered(3))
				checkByWords(t, line[:i]+b+line[i:]+"\nx\n", numbered(30))
				if i < len(line) {
					checkByWords(t, line[:i]+b+line[i+1:]+"\nx\n", numbered(3))
					checkByWords(t, line[:i]+b+line[i+1:]+"\nx\n", numbered(30))
				}
			}
		}
	}
}

// Rows of lines of all the kinds that there are, the last one with and without its line feed.
func TestRunOfAllShortRowsOfLines(t *testing.T) {
	kinds := []string{"d1 1\n", "d2 1\n", "d3 1\n", "d1 2\n", "d2 2\n", "a0 1\n", "a1 1\n", "a2 1\n", "a3 1\n", "a1 2\n", "\n", "x\n"}
	right := 0
	samples.Lists(kinds, 5, func(l []string) {
		text := strings.Join(l, "")
		checkByWords(t, text, numbered(3))
		checkByWords(t, strings.TrimSuffix(text, "\n"), numbered(2))
		if _, _, code := runByWords(text, numbered(3)); code == api.OK {
			right++
		}
	})
	if right < 1000 {
		t.Errorf("only %d of them are right", right)
	}
}

// All rows of up to six commands that name a few lines, those that put in with their lines.
func TestRunOfAllShortRowsOfCommands(t *testing.T) {
	kinds := []string{"d1 1\n", "d2 1\n", "d1 2\n", "a0 1\nx\n", "a1 1\ny\n", "a2 2\nz\nd1 1\n"}
	right := 0
	samples.Lists(kinds, 6, func(l []string) {
		text := strings.Join(l, "")
		checkByWords(t, text, numbered(2))
		if _, _, code := runByWords(text, numbered(2)); code == api.OK {
			right++
		}
	})
	if right < 20 {
		t.Errorf("only %d of them are right", right)
	}
}

func TestRunOfAllShortTexts(t *testing.T) {
	samples.Texts("1ad \nx", 7, func(s string) { checkByWords(t, s, numbered(2)) })
	samples.Texts("1ad0 \n", 7, func(s string) { checkByWords(t, s, nil) })
}

// aText has all that a text of commands may have, for twelve lines.
const aText = "a0 2\nx\n\nd1 1\na1 1\nd1 1\nd3 2\na4 3\n.\n\xff\x00\r\nä\na5 1\ny\nd6 1\nd7 1\na8 1\na8 1\nd10 3\na12 2\nz\nend"

func TestRunOfTextsThatEndBehindEachByte(t *testing.T) {
	a := numbered(12)
	if l, _, code := runByWords(aText, a); code != api.OK || len(l) < 12 {
		t.Fatalf("the text is wrong: %q, %d", l, code)
	}
	for i := range len(aText) + 1 {
		for _, text := range []string{aText[:i], aText[:i] + "\n", aText[i:], aText[i:] + "\n"} {
			checkByWords(t, text, a)
			checkByWords(t, text, a[:11])
			checkByWords(t, text, a[:4])
		}
	}
}

// Another byte at each place, a byte more, a byte less, two lines exchanged, one left out or twice there.
func TestRunOfTextsThatAreNearlyRight(t *testing.T) {
	a := numbered(12)
	samples.Nearly(aText, func(text string) { checkByWords(t, text, a) })
}

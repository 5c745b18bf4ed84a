package edfmt_test

import (
	"regexp"
	"slices"
	"strconv"
	"strings"
	"testing"

	"redline/api"
	"redline/edfmt"
	"redline/samples"
)

// checkRun holds Run of right commands against the lines that it must answer.
func checkRun(t *testing.T, text string, a, want []string) {
	t.Helper()
	l, err := edfmt.Run(text, a)
	if err != nil || !slices.Equal(l, want) {
		t.Errorf("%s with %s: %s, %v, want %s", told(text), told(a), told(l), err, told(want))
	}
}

// checkFault holds Run of wrong commands against the fault that it must answer, and nothing else.
func checkFault(t *testing.T, text string, a []string, at int, code api.Errno) {
	t.Helper()
	l, err := edfmt.Run(text, a)
	if len(l) != 0 || !samples.IsFault(err, at, code) {
		t.Errorf("%s with %s: %s, %v, want %d: error %d", told(text), told(a), told(l), err, at, code)
	}
}

// words is a text that is edited, by the chapter's words: line by line of the commands, and line by line of what is put in.
type words struct {
	there   []string
	current int  // the place of the current line; -1: there is none
	open    bool // text lines go on
	at      int  // where the next text line comes
	ended   bool
}

// withNumbers is a command with numbers, but for what these may be.
var withNumbers = regexp.MustCompile(`^(0|[1-9][0-9]*)(?:,(0|[1-9][0-9]*))?([acd])$`)

// taken is the numbers and the letter of a command, and whether it is one.
func taken(line string) (first, last int, letter string, right bool) {
	parts := withNumbers.FindStringSubmatch(line)
	if parts == nil {
		return 0, 0, "", false
	}
	p, err := strconv.ParseUint(parts[1], 10, 31)
	if err != nil || p == 0 && parts[3] != "a" {
		return 0, 0, "", false
	}
	q := p
	if parts[2] != "" {
		if q, err = strconv.ParseUint(parts[2], 10, 31); err != nil || q <= p || parts[3] == "a" {
			return 0, 0, "", false
		}
	}
	return int(p), int(q), parts[3], true
}

// take does what a line says, which has its line feed.
func (w *words) take(line string) api.Errno {
	switch {
	case w.open && line == ".":
		w.open = false
	case w.open:
		w.there = slices.Insert(w.there, w.at, line)
		w.current = w.at
		w.at++
	case w.ended:
		return api.ErrMore
	case line == strings.TrimSuffix(endLine, "\n"):
		w.ended = true
	case line == "a":
		if w.current < 0 {
			return api.ErrDot
		}
		w.at, w.current, w.open = w.current+1, -1, true
	case line == "s/.//":
		if w.current < 0 || w.there[w.current] == "" {
			return api.ErrDot
		}
		w.there[w.current] = w.there[w.current][1:]
	default:
		return w.takeNumbers(line)
	}
	return api.OK
}

// takeNumbers does what a command with numbers says.
func (w *words) takeNumbers(line string) api.Errno {
	first, last, letter, right := taken(line)
	if !right {
		return api.ErrText
	}
	if last > len(w.there) {
		return api.ErrRange
	}
	w.current, w.at, w.open = -1, first, letter != "d"
	if letter != "a" {
		w.there = slices.Delete(w.there, first-1, last)
		w.at = first - 1
	}
	return api.OK
}

// runByWords is the lines that commands make, or the place and the number of the fault.
func runByWords(text string, a []string) ([]string, int, api.Errno) {
	if len(text) > 1<<20 {
		return nil, 0, api.ErrLong
	}
	w := words{current: -1}
	for _, line := range a {
		w.there = append(w.there, strings.TrimSuffix(line, "\n"))
	}
	all := strings.SplitAfter(text, "\n")
	for i, line := range all[:len(all)-1] {
		if code := w.take(strings.TrimSuffix(line, "\n")); code != api.OK {
			return nil, i + 1, code
		}
	}
	if all[len(all)-1] != "" {
		return nil, len(all), api.ErrText
	}
	if w.open {
		return nil, len(all), api.ErrShort
	}
	for i := range w.there {
		if !w.ended || i < len(w.there)-1 {
			w.there[i] += "\n"
		}
	}
	return w.there, 0, api.OK
}

// checkByWords holds Run of any text against the chapter's words.
func checkByWords(t *testing.T, text string, a []string) {
	t.Helper()
	want, at, code := runByWords(text, a)
	if code == api.OK {
		checkRun(t, text, a, want)
		return
	}
	checkFault(t, text, a, at, code)
}

// three is lines that most commands are tried with.
func three() []string { return []string{"1\n", "2\n", "3\n"} }

// Promise 13.2.

func TestRunOfTheChaptersExamples(t *testing.T) {
	two := []string{"1\n", "2\n"}
	checkRun(t, "1d\n", two, []string{"2\n"})
	checkFault(t, "3d\n", two, 1, api.ErrRange)
	checkFault(t, "s/.//\n", two, 1, api.ErrDot)
	checkFault(t, "1a\nx\n", two, 3, api.ErrShort)
	checkRun(t, "2,3c\n..\n.\ns/.//\n", three(), []string{"1\n", ".\n"})
	checkRun(t, "0a\nx\n.\n"+endLine, nil, []string{"x"})
}

func TestRunOfRightCommands(t *testing.T) {
	for _, c := range []struct {
		name string
		text string
		want string // the lines behind one another
	}{
		{"none", "", "1\n2\n3\n"},
		{"ahead of all", "0a\nx\n.\n", "x\n1\n2\n3\n"},
		{"behind the first line", "1a\nx\n.\n", "1\nx\n2\n3\n"},
		{"behind all", "3a\nx\n.\n", "1\n2\n3\nx\n"},
		{"several text lines", "2a\nx\ny\nz\n.\n", "1\n2\nx\ny\nz\n3\n"},
		{"no text lines", "2a\n.\n", "1\n2\n3\n"},
		{"the first line goes", "1d\n", "2\n3\n"},
		{"the last line goes", "3d\n", "1\n2\n"},
		{"a range goes", "1,2d\n", "3\n"},
		{"a range up to the end goes", "2,3d\n", "1\n"},
		{"all go", "1,3d\n", ""},
		{"all go one by one", "1d\n1d\n1d\n", ""},
		{"all go and others come", "1,3d\n0a\nx\n.\n", "x\n"},
		{"one for one", "2c\nx\n.\n", "1\nx\n3\n"},
		{"one for two", "2c\nx\ny\n.\n", "1\nx\ny\n3\n"},
		{"two for one", "2,3c\nx\n.\n", "1\nx\n"},
		{"one for none", "2c\n.\n", "1\n3\n"},
		{"all for one", "1,3c\nx\n.\n", "x\n"},
		{"all for none", "1,3c\n.\n", ""},
		{"numbers are those of the text as it is then", "1d\n1d\n1a\nx\n.\n2d\n", "3\n"},
		{"a line that came is named", "0a\nx\ny\n.\n2d\n4c\nz\n.\n", "x\n1\n2\nz\n"},
		{"there are more lines then", "3a\nx\n.\n4a\ny\n.\n5a\nz\n.\n", "1\n2\n3\nx\ny\nz\n"},
		{"further lines", "1a\nx\n.\na\ny\n.\na\nz\n.\n", "1\nx\ny\nz\n2\n3\n"},
		{"further lines behind c", "1,2c\nx\n.\na\ny\nz\n.\n", "x\ny\nz\n3\n"},
		{"further lines behind s", "1a\nxy\n.\ns/.//\na\nz\n.\n", "1\ny\nz\n2\n3\n"},
		{"further lines that are none", "1a\nx\n.\na\n.\n", "1\nx\n2\n3\n"},
		{"a byte goes", "1a\nx\nyz\n.\ns/.//\n", "1\nx\nz\n2\n3\n"},
		{"a byte goes behind c", "3c\nyz\n.\ns/.//\n", "1\n2\nz\n"},
		{"a byte goes of further lines", "1a\nab\n.\na\ncd\n.\ns/.//\n", "1\nab\nd\n2\n3\n"},
		{"bytes go one by one", "1a\nxyz\n.\ns/.//\ns/.//\n", "1\nz\n2\n3\n"},
		{"all bytes go", "1a\nxy\n.\ns/.//\ns/.//\n", "1\n\n2\n3\n"},
		{"further lines behind one that became empty", "1a\nx\n.\ns/.//\na\ny\n.\n", "1\n\ny\n2\n3\n"},
		{"a byte of a letter goes", "1c\n\u00e4\n.\ns/.//\n", "\xa4\n2\n3\n"},
		{"a nought goes", "1c\n\x00\x00\n.\ns/.//\n", "\x00\n2\n3\n"},
		{"two dots stay", "1c\n..\n.\n", "..\n2\n3\n"},
		{"a dot and more", "1c\n.x\n. \n .\n.\r\n.\n", ".x\n. \n .\n.\r\n2\n3\n"},
		{"empty text lines", "1c\n\n\n.\n", "\n\n2\n3\n"},
		{"text lines that look like commands", "1c\n1d\na\ns/.//\n9999a\n" + endLine + "..\n.\n", "1d\na\ns/.//\n9999a\n" + endLine + "..\n2\n3\n"},
		{"the end line alone", endLine, "1\n2\n3"},
		{"the end line behind commands", "3d\n" + endLine, "1\n2"},
		{"the end line behind text lines", "3a\nx\n.\n" + endLine, "1\n2\n3\nx"},
		{"the end line behind s", "3c\n..\n.\ns/.//\n" + endLine, "1\n2\n."},
		{"the end line with no lines there", "1,3d\n" + endLine, ""},
		{"the last line goes, and comes again", "3d\n2a\n3\n.\n", "1\n2\n3\n"},
		{"lines of all kinds of bytes", "1,3c\n\t\x00\xff\xc3\x28\r\n.\n", "\t\x00\xff\xc3\x28\r\n"},
	} {
		t.Run(c.name, func(t *testing.T) {
			want := strings.SplitAfter(c.want, "\n")
			if want[len(want)-1] == "" {
				want = want[:len(want)-1]
			}
			checkRun(t, c.text, three(), want)
			checkByWords(t, c.text, three())
			checkRun(t, c.text, samples.Unfed(three()), want)
		})
	}
	for c := range 256 {
		if line := string([]byte{byte(c), '\n'}); c != '\n' && c != '.' {
			checkRun(t, "1c\n"+line+".\n", three(), []string{line, "2\n", "3\n"})
			checkRun(t, "1c\n"+line+".\ns/.//\n", three(), []string{"\n", "2\n", "3\n"})
			checkRun(t, "1c\nx"+line+".\ns/.//\n", three(), []string{line, "2\n", "3\n"})
		}
	}
}

// The lines that are there first may be any: one line feed at the end of each does not count.
func TestRunWithAnyLines(t *testing.T) {
	for _, c := range []struct {
		name      string
		text      string
		a, want   []string
		wantUnfed []string
	}{
		{"no lines", "", nil, nil, nil},
		{"right lines", "", []string{"a\n", "b\n"}, []string{"a\n", "b\n"}, []string{"a\n", "b"}},
		{"the last one lacks its feed", "", []string{"a\n", "b"}, []string{"a\n", "b\n"}, []string{"a\n", "b"}},
		{"others lack theirs", "", []string{"a", "b"}, []string{"a\n", "b\n"}, []string{"a\n", "b"}},
		{"empty ones", "", []string{"", "\n", ""}, []string{"\n", "\n", "\n"}, []string{"\n", "\n", ""}},
		{"feeds within", "", []string{"a\nb\n", "c\nd"}, []string{"a\nb\n", "c\nd\n"}, []string{"a\nb\n", "c\nd"}},
		{"several feeds at the end", "", []string{"a\n\n", "\n\n"}, []string{"a\n\n", "\n\n"}, []string{"a\n\n", "\n"}},
		{"with feeds within they are still single lines", "2d\n1a\nx\n.\n", []string{"a\nb\n", "c\nd", "e\nf\n"}, []string{"a\nb\n", "x\n", "e\nf\n"}, []string{"a\nb\n", "x\n", "e\nf"}},
		{"what looks like commands", "1d\n", []string{"1d\n", ".\n", endLine}, []string{".\n", endLine}, []string{".\n", strings.TrimSuffix(endLine, "\n")}},
		{"dots", "", []string{".\n", "."}, []string{".\n", ".\n"}, []string{".\n", "."}},
		{"bytes of all kinds", "1a\nx\n.\n", []string{"\x00\xff", "\r\n"}, []string{"\x00\xff\n", "x\n", "\r\n"}, []string{"\x00\xff\n", "x\n", "\r"}},
	} {
		t.Run(c.name, func(t *testing.T) {
			checkRun(t, c.text, c.a, c.want)
			checkRun(t, c.text+endLine, c.a, c.wantUnfed)
		})
	}
}

// notCommands are lines that are no commands, whatever is there.
func notCommands() []string {
	return []string{
		"", " ", ".", "..", "x", "c", "d", "1", "0", "12", "1,2", ",", ",d", ",a", "-", "---", "< a", "> a", "hello", "\x00", "\xff", "w", "q", "$", "$d", "$a", "/x/d", "g/x/d", "%d", "1p", "1i", "1s/.//",
		" 1d", "1d ", "1 d", "1\td", "1d\t", "1d\r", "1d\x00", "1, 2d", "1 ,2d", "1,2 d", " a", "a ", "a\r", " s/.//", "s/.// ", "s/.//\r", "0a ", " 0a", "0 a", "1 c", "1c ", " 1c",
		"01d", "00a", "01a", "01c", "1,02d", "01,2d", "001,2c", "1,02c", "000d", "00d",
		"0d", "0c", "0,1d", "0,1c", "0,2d", "0,0d", "1,0d", "1,0c",
		"1,1d", "2,1d", "2,2c", "3,1c", "1,1c", "10,9d", "2147483647,2147483647d", "2147483647,1d",
		"1,2a", "0,1a", "0,0a", "1,1a", "2,1a", ",1a", "1,a", ",1d", "1,d", "1,c", ",1c", "1,2,d", "1,2,3d", "1,,2d", ",1,2d", "1;2d", "1-2d", "1..2d",
		"2147483648a", "2147483648d", "2147483648c", "1,2147483648d", "1,2147483648c", "2147483648,2147483649d", "2147483647,2147483648d", "4294967296a", "4294967297d", "1,4294967298d",
		"9223372036854775807d", "9223372036854775808d", "18446744073709551616a", "18446744073709551617d", "1,18446744073709551618d", "99999999999999999999a", "99999999999999999999d", "99999999999999999999c", "1,99999999999999999999d",
		"1,99999999999999999999c", strings.Repeat("9", 400) + "d", "1" + strings.Repeat("0", 400) + "a", strings.Repeat("0", 400) + "a",
		"1b", "1e", "1D", "1A", "1C", "1?", "1=", "A", "S/.//", "1ad", "1da", "1cd", "1dd", "1aa", "aa", "ad", "a1", "d1", "c1", "1d1", "1a1", "1c1", "1d0", "0a1", "1c1,2", "a,", ",a,", "1d,",
		"+1d", "-1d", "+0a", "-0a", "1,+2d", "1,-2d", "0x1d", "1_0d", "1e1d", "1.0d", "\uff11d", "\u0661d", "\"1\"d",
		"s", "s/", "s/./", "s/.///", "s/.//g", "s/x//", "s/\\.//", "s/././", "s/..//", "s//./", "1s/.//", ".s/.//", "s/.//a", "as/.//", "s,.,,", "s|.||",
		"\\", "\\ No newline", "\\ No newline at end of file ", " \\ No newline at end of file", "\\ No newline at end of file\r", "\\ no newline at end of file", "\\ No newline at end of file.", "No newline at end of file", "/ No newline at end of file", "\\No newline at end of file",
	}
}

func TestRunOfWhatIsNoCommand(t *testing.T) {
	for _, line := range notCommands() {
		checkFault(t, line+"\n", three(), 1, api.ErrText)
		checkFault(t, line+"\n", nil, 1, api.ErrText)
		checkFault(t, line+"\nx\n.\n", three(), 1, api.ErrText)
		checkFault(t, "1d\n"+line+"\n", three(), 2, api.ErrText)
		checkFault(t, "1a\nxy\n.\n"+line+"\n", three(), 4, api.ErrText)
		checkFault(t, "1a\nxy\n.\ns/.//\n"+line+"\n.\n", three(), 5, api.ErrText)
		if line != "" {
			checkFault(t, line, three(), 1, api.ErrText)
			checkFault(t, "1d\n"+line, three(), 2, api.ErrText)
		}
		if line != "." {
			checkRun(t, "1c\n"+line+"\n.\n", three(), []string{line + "\n", "2\n", "3\n"})
		}
	}
	const bare = `\ No newline at end of file`
	for i := range len(bare) {
		for _, line := range []string{bare[:i] + bare[i+1:], bare[:i] + "x" + bare[i+1:], bare[:i] + "x" + bare[i:], bare[:i]} {
			checkFault(t, "1d\n"+line+"\n", three(), 2, api.ErrText)
		}
	}
}

// Numbers up to that of all lines that are there, and above.
func TestRunOfNumbers(t *testing.T) {
	const top = "2147483647"
	for n := range 4 {
		a := three()[:n]
		all, more := strconv.Itoa(n), strconv.Itoa(n+1)
		text := func(l ...string) []string { return slices.Concat(l, nil) }
		checkRun(t, "0a\nx\n.\n", a, slices.Concat(text("x\n"), a))
		checkRun(t, all+"a\nx\n.\n", a, slices.Concat(a, text("x\n")))
		checkFault(t, "0d\n", a, 1, api.ErrText)
		checkFault(t, "0c\nx\n.\n", a, 1, api.ErrText)
		for _, line := range []string{more + "a", more + "d", more + "c", "1," + strconv.Itoa(n+2) + "d", "1," + strconv.Itoa(n+2) + "c", top + "a", top + "d", top + "c", "1," + top + "d", "1," + top + "c", "2147483646," + top + "d", more + "," + top + "c"} {
			checkFault(t, line+"\n", a, 1, api.ErrRange)
			checkFault(t, line+"\nx\n.\n", a, 1, api.ErrRange)
			checkFault(t, "0a\n.\n"+line+"\n", a, 3, api.ErrRange)
			checkFault(t, line, a, 1, api.ErrText)
		}
		for _, number := range []string{"2147483648", "4294967296", "99999999999999999999"} {
			for _, line := range []string{number + "a\n", number + "d\n", number + "c\n", "1," + number + "d\n", more + "," + number + "c\n"} {
				checkFault(t, line, a, 1, api.ErrText)
			}
		}
		if n > 0 {
			checkRun(t, all+"d\n", a, a[:n-1])
			checkRun(t, all+"c\nx\n.\n", a, slices.Concat(a[:n-1], text("x\n")))
			checkFault(t, all+","+more+"d\n", a, 1, api.ErrRange)
			checkFault(t, all+","+more+"c\nx\n.\n", a, 1, api.ErrRange)
		}
		if n > 1 {
			checkRun(t, "1,"+all+"d\n", a, nil)
			checkRun(t, strconv.Itoa(n-1)+","+all+"d\n", a, a[:n-2])
			checkRun(t, "1,"+all+"c\nx\n.\n", a, text("x\n"))
		}
	}
	// What is there then counts, not what was there first.
	checkFault(t, "1d\n3d\n", three(), 2, api.ErrRange)
	checkFault(t, "1,3d\n1a\nx\n.\n", three(), 2, api.ErrRange)
	checkRun(t, "1,3d\n0a\nx\n.\n1d\n", three(), nil)
	checkFault(t, "1c\n.\n3d\n", three(), 3, api.ErrRange)
	checkRun(t, "1a\nx\n.\n4d\n", three(), []string{"1\n", "x\n", "2\n"})
	checkFault(t, "1a\nx\n.\n5d\n", three(), 4, api.ErrRange)
	checkFault(t, "1,2c\nx\ny\nz\n.\n4d\n4d\n", three(), 7, api.ErrRange)
}

// Which line is the current one, and where there is none.
func TestRunOfTheCurrentLine(t *testing.T) {
	for _, c := range []struct {
		name  string
		text  string
		lines int    // of text
		want  string // the lines between 1 and 3 with xy put in further; empty: there is no current line
	}{
		{"at the front", "", 0, ""},
		{"behind a that has put one in", "1a\nab\n.\n", 3, "ab\nxy\n2\n"},
		{"behind a that has put some in", "1a\nab\ncd\n.\n", 4, "ab\ncd\nxy\n2\n"},
		{"behind a that has put none in", "1a\n.\n", 2, ""},
		{"behind c that has put one in", "2c\nab\n.\n", 3, "ab\nxy\n"},
		{"behind c that has put none in", "2c\n.\n", 2, ""},
		{"behind d", "2d\n", 1, ""},
		{"behind a and d", "1a\nab\n.\n2d\n", 4, ""},
		{"behind a and a that has put none in", "1a\nab\n.\n1a\n.\n", 5, ""},
		{"behind further lines", "1a\nab\n.\na\ncd\n.\n", 6, "ab\ncd\nxy\n2\n"},
		{"behind further lines that are none", "1a\nab\n.\na\n.\n", 5, ""},
		{"behind s", "1a\nab\n.\ns/.//\n", 4, "b\nxy\n2\n"},
		{"behind s twice", "1a\nab\n.\ns/.//\ns/.//\n", 5, "\nxy\n2\n"},
		{"behind a, another a ahead of it", "1a\nab\n.\n1a\ncd\n.\n", 6, "cd\nxy\nab\n2\n"},
		{"behind an empty line", "1a\n\n.\n", 3, "\nxy\n2\n"},
	} {
		t.Run(c.name, func(t *testing.T) {
			further := c.text + "a\nxy\n.\n"
			if c.want == "" {
				checkFault(t, further, three(), c.lines+1, api.ErrDot)
				checkFault(t, c.text+"a\n", three(), c.lines+1, api.ErrDot)
				checkFault(t, c.text+"s/.//\n", three(), c.lines+1, api.ErrDot)
				checkFault(t, c.text+"s/.//\nx\n", three(), c.lines+1, api.ErrDot)
				return
			}
			want := strings.SplitAfter("1\n"+c.want+"3\n", "\n")
			checkRun(t, further, three(), want[:len(want)-1])
			checkByWords(t, c.text+"s/.//\n", three())
			checkByWords(t, c.text+"s/.//\ns/.//\n", three())
			checkByWords(t, c.text+"s/.//\ns/.//\ns/.//\n", three())
			checkByWords(t, further+"s/.//\n", three())
		})
	}
	checkFault(t, "1a\n\n.\ns/.//\n", three(), 4, api.ErrDot)
	checkFault(t, "1a\nx\n.\ns/.//\ns/.//\n", three(), 5, api.ErrDot)
	checkFault(t, "1a\nx\n\n.\ns/.//\n", three(), 5, api.ErrDot)
	checkFault(t, "1a\nxyz\n.\n"+strings.Repeat("s/.//\n", 4), three(), 7, api.ErrDot)
}

func TestRunOfWrongTexts(t *testing.T) {
	for _, c := range []struct {
		name string
		text string
		at   int
		code api.Errno
	}{
		{"text lines do not end", "1a\nx\ny\n", 4, api.ErrShort},
		{"text lines of c do not end", "1c\nx\n", 3, api.ErrShort},
		{"text lines that are none do not end", "1a\n", 2, api.ErrShort},
		{"further lines do not end", "1a\nx\n.\na\ny\n", 6, api.ErrShort},
		{"further lines that are none do not end", "1a\nx\n.\na\n", 5, api.ErrShort},
		{"text lines end with nearly a dot", "1a\nx\n..\n. \n .\n.\r\n", 7, api.ErrShort},
		{"text lines end with the end line", "1a\nx\n" + endLine, 4, api.ErrShort},
		{"a text line lacks its feed", "1a\nx", 2, api.ErrText},
		{"the first text line but one lacks its feed", "1a\nx\ny", 3, api.ErrText},
		{"the dot lacks its feed", "1a\nx\n.", 3, api.ErrText},
		{"a lacks its feed", "1a", 1, api.ErrText},
		{"d lacks its feed", "1d", 1, api.ErrText},
		{"a command lacks its feed, and names what is not there", "9d", 1, api.ErrText},
		{"a alone lacks its feed, and there is no current line", "a", 1, api.ErrText},
		{"s lacks its feed", "1a\nx\n.\ns/.//", 4, api.ErrText},
		{"a dot where a command must be", ".\n", 1, api.ErrText},
		{"two dots behind text lines", "1a\nx\n.\n.\n", 4, api.ErrText},
		{"an empty line behind commands", "1d\n\n", 2, api.ErrText},
		{"an empty line at the front", "\n1d\n", 1, api.ErrText},
		{"the end line lacks its feed", strings.TrimSuffix(endLine, "\n"), 1, api.ErrText},
		{"the end line lacks its feed behind commands", "1d\n" + strings.TrimSuffix(endLine, "\n"), 2, api.ErrText},
		{"the end line at the front", endLine + "1d\n", 2, api.ErrMore},
		{"the end line twice", endLine + endLine, 2, api.ErrMore},
		{"the end line three times", "1d\n" + endLine + endLine + endLine, 3, api.ErrMore},
		{"a line behind the end line", "1d\n" + endLine + "1d\n", 3, api.ErrMore},
		{"a command that is none behind the end line", "1d\n" + endLine + "x\n", 3, api.ErrMore},
		{"an empty line behind the end line", "1d\n" + endLine + "\n", 3, api.ErrMore},
		{"a number that is too great behind the end line", endLine + "9d\n", 2, api.ErrMore},
		{"s behind the end line", endLine + "s/.//\n", 2, api.ErrMore},
		{"a and s behind the end line", "1a\nx\n.\n" + endLine + "a\ny\n.\n", 5, api.ErrMore},
		{"text lines that do not end behind the end line", endLine + "1a\nx\n", 2, api.ErrMore},
		{"a line without its feed behind the end line", endLine + "1d", 2, api.ErrText},
		{"two wrong lines, of ErrText and ErrRange", "x\n9d\n", 1, api.ErrText},
		{"two wrong lines, of ErrRange and ErrText", "9d\nx\n", 1, api.ErrRange},
		{"two wrong lines, of ErrDot and ErrText", "1d\na\nx\n", 2, api.ErrDot},
		{"two wrong lines, of ErrDot and ErrShort", "a\nx\n", 1, api.ErrDot},
		{"two wrong lines, of ErrRange and ErrShort", "4a\nx\n", 1, api.ErrRange},
		{"two wrong lines, of ErrText and one without its feed", "1dd\n1d", 1, api.ErrText},
		{"two wrong lines, of ErrText and ErrMore", "x\n" + endLine + "1d\n", 1, api.ErrText},
		{"two wrong lines, of ErrMore and ErrText", endLine + "1d\nx\n", 2, api.ErrMore},
		{"two wrong lines, of ErrMore and one without its feed", endLine + "1d\n1d", 2, api.ErrMore},
		{"two wrong lines, the second of them first done", "1d\n1d\n2d\nx\n", 3, api.ErrRange},
	} {
		t.Run(c.name, func(t *testing.T) {
			checkFault(t, c.text, three(), c.at, c.code)
			checkByWords(t, c.text, three())
		})
	}
}

// Each line that may be a command, of a few digits, and each byte where a letter stands.
func TestRunOfAllShortCommands(t *testing.T) {
	right := 0
	samples.Texts("0123,acd", 5, func(s string) {
		checkByWords(t, s+"\n", three()[:2])
		if _, _, _, ok := taken(s); ok {
			right++
		}
	})
	if right < 500 {
		t.Errorf("only %d of them are commands", right)
	}
	samples.Texts("1 da,\x00s", 4, func(s string) { checkByWords(t, "0a\nxy\n.\n"+s+"\n.\n", three()) })
	samples.Texts("s/.a", 6, func(s string) { checkByWords(t, "0a\nxy\n.\n"+s+"\n", nil) })
	for c := range 256 {
		b := string([]byte{byte(c)})
		for _, text := range []string{b, "1" + b, b + "1d", "1" + b + "2d", "1d" + b, b + "a", "a" + b, "s" + b + ".//", "s/" + b + "//", "s/.//" + b} {
			checkByWords(t, "0a\nxy\n.\n"+text+"\n", three())
			checkByWords(t, "0a\nxy\n.\n"+text+"\n.\n", three())
		}
	}
}

// Rows of lines of all the kinds that there are, the last one with and without its line feed.
func TestRunOfAllShortRowsOfLines(t *testing.T) {
	kinds := []string{"0a\n", "2a\n", "a\n", "1d\n", "1,2d\n", "2c\n", "s/.//\n", ".\n", "..\n", "x\n", "\n", endLine}
	right := 0
	samples.Lists(kinds, 5, func(l []string) {
		text := strings.Join(l, "")
		checkByWords(t, text, three()[:2])
		checkByWords(t, strings.TrimSuffix(text, "\n"), nil)
		if _, _, code := runByWords(text, three()[:2]); code == api.OK {
			right++
		}
	})
	if right < 1000 {
		t.Errorf("only %d of them are right", right)
	}
	fewer := []string{"1a\n", "a\n", "s/.//\n", ".\n", "..\n", "1d\n"}
	samples.Lists(fewer, 7, func(l []string) { checkByWords(t, strings.Join(l, ""), three()[:1]) })
}

func TestRunOfAllShortTexts(t *testing.T) {
	samples.Texts("1ad.\nx", 7, func(s string) { checkByWords(t, s, three()) })
	samples.Texts("02,c\n.\\", 6, func(s string) { checkByWords(t, s, three()) })
}

// aText has all that a text of commands may have.
const aText = "3a\nx\n\n..\n.\ns/.//\na\ny\x00\n..\n.\ns/.//\na\n1d\n" + endLine + "zz\n.\ns/.//\ns/.//\na\n.\n2,10d\n1c\nu\nv\n.\n0a\n.\n1,2d\n0a\nä\n.\ns/.//\n1a\nw\n.\n" + endLine

func TestRunOfTextsThatEndBehindEachByte(t *testing.T) {
	if l, _, code := runByWords(aText, three()); code != api.OK || len(l) < 2 {
		t.Fatalf("the text is wrong: %q, %d", l, code)
	}
	for i := range len(aText) + 1 {
		checkByWords(t, aText[:i], three())
		checkByWords(t, aText[:i]+"\n", three())
		checkByWords(t, aText[i:], three())
		if at := 1 + strings.Count(aText[:i], "\n"); i > 0 && aText[i-1] != '\n' {
			checkFault(t, aText[:i], three(), at, api.ErrText)
		}
	}
}

// Another byte at each place, a byte more, a byte less, two lines exchanged, one left out or twice there.
func TestRunOfTextsThatAreNearlyRight(t *testing.T) {
	samples.Nearly(aText, func(text string) { checkByWords(t, text, three()) })
}

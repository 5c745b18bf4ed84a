package normal_test

import (
	"regexp"
	"slices"
	"strconv"
	"strings"
	"testing"

	"redline/api"
	"redline/hunks"
	"redline/normal"
	"redline/samples"
)

// checkParse holds Parse of a right text against the hunks that it must answer.
func checkParse(t *testing.T, text string, want []api.Hunk) {
	t.Helper()
	l, err := normal.Parse(text)
	if err != nil || !samples.SameHunks(l, want) {
		t.Errorf("%s: %s, %v, want %s", told(text), told(l), err, told(want))
	}
	for _, h := range l {
		if code := hunks.Check(h); code != api.OK {
			t.Errorf("%s: %s is no right hunk: %d", told(text), told(h), code)
		}
	}
}

// checkFault holds Parse of a wrong text against the fault that it must answer, and nothing else.
func checkFault(t *testing.T, text string, at int, code api.Errno) {
	t.Helper()
	l, err := normal.Parse(text)
	if len(l) != 0 || !samples.IsFault(err, at, code) {
		t.Errorf("%s: %s, %v, want %d: error %d", told(text), told(l), err, at, code)
	}
}

// changeForm is a line that says a change, but for what its numbers may be.
var changeForm = regexp.MustCompile(`^(0|[1-9][0-9]*)(?:,([1-9][0-9]*))?([acd])(0|[1-9][0-9]*)(?:,([1-9][0-9]*))?\n$`)

// rangeFrom is the number and the count of lines of a range, or of the line ahead, out of the texts of its numbers.
func rangeFrom(first, last string, ahead bool) (number, count int, right bool) {
	p, err := strconv.ParseUint(first, 10, 31)
	if err != nil {
		return 0, 0, false
	}
	if ahead {
		return int(p), 0, last == ""
	}
	q := p
	if last != "" {
		if q, err = strconv.ParseUint(last, 10, 31); err != nil || q <= p {
			return 0, 0, false
		}
	}
	return int(p), int(q-p) + 1, p >= 1
}

// changeByWords is the hunk that a line with its line feed says, without lines.
func changeByWords(line string) (api.Hunk, bool) {
	parts := changeForm.FindStringSubmatch(line)
	if parts == nil {
		return api.Hunk{}, false
	}
	a, an, rightA := rangeFrom(parts[1], parts[2], parts[3] == "a")
	b, bn, rightB := rangeFrom(parts[4], parts[5], parts[3] == "d")
	return api.Hunk{A: a, AN: an, B: b, BN: bn}, rightA && rightB
}

// wants is what of a change must still stand, and which line a mark may end.
type wants struct {
	before, behind int
	divider        bool
	last           *api.Mark
}

// parseByWords is the hunks of a text, or the place and the number of the fault: each line is held against what may stand there.
func parseByWords(text string) ([]api.Hunk, int, api.Errno) {
	if len(text) > 1<<20 {
		return nil, 0, api.ErrLong
	}
	all := strings.SplitAfter(text, "\n")
	if all[len(all)-1] == "" {
		all = all[:len(all)-1]
	}
	var l []api.Hunk
	var w wants
	for i, line := range all {
		if line == noFeed && w.last != nil && w.last.Text != "\n" {
			w.last.Text = strings.TrimSuffix(w.last.Text, "\n")
			w.last = nil
			continue
		}
		if code := w.take(line, &l); code != api.OK {
			return nil, i + 1, code
		}
	}
	if w.before > 0 || w.divider || w.behind > 0 {
		return nil, len(all) + 1, api.ErrShort
	}
	return l, 0, api.OK
}

// take holds a line, which is no mark that may stand there, against what must.
func (w *wants) take(line string, l *[]api.Hunk) api.Errno {
	w.last = nil
	if !strings.HasSuffix(line, "\n") {
		return api.ErrText
	}
	switch {
	case w.before > 0:
		w.before--
		return w.takeText(line, "<", api.Removed, w.before, l)
	case w.divider:
		w.divider = false
		if line != "---\n" {
			return api.ErrText
		}
		return api.OK
	case w.behind > 0:
		w.behind--
		return w.takeText(line, ">", api.Added, w.behind, l)
	}
	h, right := changeByWords(line)
	if !right {
		return api.ErrText
	}
	if len(*l) >= 1<<12 {
		return api.ErrLong
	}
	*l = append(*l, h)
	w.before, w.behind, w.divider = h.AN, h.BN, strings.Contains(line, "c")
	return api.OK
}

// takeText adds the line that has that sign in front to the last hunk.
func (w *wants) takeText(line, front string, sign byte, left int, l *[]api.Hunk) api.Errno {
	if !strings.HasPrefix(line, front+" ") {
		return api.ErrText
	}
	h := &(*l)[len(*l)-1]
	h.Lines = append(h.Lines, api.Mark{Sign: sign, Text: line[2:]})
	if left == 0 {
		w.last = &h.Lines[len(h.Lines)-1]
	}
	return api.OK
}

// checkByWords holds Parse of any text against the chapter's words.
func checkByWords(t *testing.T, text string) {
	t.Helper()
	want, at, code := parseByWords(text)
	if code == api.OK {
		checkParse(t, text, want)
		return
	}
	checkFault(t, text, at, code)
}

// Promise 12.2.

func TestParseOfTheChaptersExamples(t *testing.T) {
	checkParse(t, "1d0\n< a\n", []api.Hunk{samples.Hunk([4]int{1, 1, 0, 0}, "-a\n")})
	checkFault(t, "2a1\n", 2, api.ErrShort)
	checkFault(t, "1,1d0\n", 1, api.ErrText)
	checkFault(t, "1d0\n> a\n", 2, api.ErrText)
	checkParse(t, "2c2\n< 2\n---\n> x\n3a4\n> 4\n"+noFeed, []api.Hunk{
		samples.Hunk([4]int{2, 1, 2, 1}, "-2\n", "+x\n"),
		samples.Hunk([4]int{3, 0, 4, 1}, "+4"),
	})
}

func TestParseOfRightTexts(t *testing.T) {
	for _, c := range []struct {
		name string
		text string
		want []api.Hunk
	}{
		{"nothing", "", nil},
		{"one goes", "2d1\n< a\n", []api.Hunk{samples.Hunk([4]int{2, 1, 1, 0}, "-a\n")}},
		{"some go", "2,4d7\n< a\n< b\n< c\n", []api.Hunk{samples.Hunk([4]int{2, 3, 7, 0}, "-a\n", "-b\n", "-c\n")}},
		{"one comes", "5a3\n> a\n", []api.Hunk{samples.Hunk([4]int{5, 0, 3, 1}, "+a\n")}},
		{"some come", "0a1,2\n> a\n> b\n", []api.Hunk{samples.Hunk([4]int{0, 0, 1, 2}, "+a\n", "+b\n")}},
		{"one for one", "1c1\n< a\n---\n> b\n", []api.Hunk{samples.Hunk([4]int{1, 1, 1, 1}, "-a\n", "+b\n")}},
		{"two for three", "8,9c3,5\n< a\n< b\n---\n> c\n> d\n> e\n", []api.Hunk{samples.Hunk([4]int{8, 2, 3, 3}, "-a\n", "-b\n", "+c\n", "+d\n", "+e\n")}},
		{"the same for the same", "1c1\n< a\n---\n> a\n", []api.Hunk{samples.Hunk([4]int{1, 1, 1, 1}, "-a\n", "+a\n")}},
		{"several", "1d0\n< a\n3a3\n> b\n5c5\n< c\n---\n> d\n", []api.Hunk{
			samples.Hunk([4]int{1, 1, 0, 0}, "-a\n"),
			samples.Hunk([4]int{3, 0, 3, 1}, "+b\n"),
			samples.Hunk([4]int{5, 1, 5, 1}, "-c\n", "+d\n"),
		}},
		{"several in no order", "9d9\n< a\n1d5\n< b\n1d5\n< b\n", []api.Hunk{
			samples.Hunk([4]int{9, 1, 9, 0}, "-a\n"),
			samples.Hunk([4]int{1, 1, 5, 0}, "-b\n"),
			samples.Hunk([4]int{1, 1, 5, 0}, "-b\n"),
		}},
		{"lines that are just feeds", "1,2c1\n< \n< \n---\n> \n", []api.Hunk{samples.Hunk([4]int{1, 2, 1, 1}, "-\n", "-\n", "+\n")}},
		{"lines that look like others", "1,5c1,2\n< 1d0\n< ---\n< < a\n< > a\n< " + noFeed + "---\n> ---\n> " + noFeed, []api.Hunk{
			samples.Hunk([4]int{1, 5, 1, 2}, "-1d0\n", "----\n", "-< a\n", "-> a\n", "-"+noFeed, "+---\n", "+"+noFeed),
		}},
		{"lines of all kinds of bytes", "1,4d0\n<  \n< \t\r\n< \x00\xff\xc3\x28\n<    a \n", []api.Hunk{samples.Hunk([4]int{1, 4, 0, 0}, "- \n", "-\t\r\n", "-\x00\xff\xc3\x28\n", "-   a \n")}},
	} {
		t.Run(c.name, func(t *testing.T) {
			checkParse(t, c.text, c.want)
			checkByWords(t, c.text)
		})
	}
	for c := range 256 {
		if line := string([]byte{byte(c), '\n'}); c != '\n' {
			checkParse(t, "1d0\n< "+line, []api.Hunk{samples.Hunk([4]int{1, 1, 0, 0}, "-"+line)})
			checkParse(t, "0a1\n> "+line, []api.Hunk{samples.Hunk([4]int{0, 0, 1, 1}, "+"+line)})
		}
	}
}

func TestParseOfMarks(t *testing.T) {
	const a, b = "< a\n", "> b\n"
	for _, c := range []struct {
		name string
		text string
		want []api.Hunk
	}{
		{"behind what goes", "1d0\n" + a + noFeed, []api.Hunk{samples.Hunk([4]int{1, 1, 0, 0}, "-a")}},
		{"behind the last that goes", "1,2d0\n" + a + a + noFeed, []api.Hunk{samples.Hunk([4]int{1, 2, 0, 0}, "-a\n", "-a")}},
		{"behind what comes", "0a1\n" + b + noFeed, []api.Hunk{samples.Hunk([4]int{0, 0, 1, 1}, "+b")}},
		{"behind the last that comes", "0a1,2\n" + b + b + noFeed, []api.Hunk{samples.Hunk([4]int{0, 0, 1, 2}, "+b\n", "+b")}},
		{"behind the old line alone", "1c1\n" + a + noFeed + "---\n" + b, []api.Hunk{samples.Hunk([4]int{1, 1, 1, 1}, "-a", "+b\n")}},
		{"behind the new line alone", "1c1\n" + a + "---\n" + b + noFeed, []api.Hunk{samples.Hunk([4]int{1, 1, 1, 1}, "-a\n", "+b")}},
		{"behind both", "1c1\n" + a + noFeed + "---\n" + b + noFeed, []api.Hunk{samples.Hunk([4]int{1, 1, 1, 1}, "-a", "+b")}},
		{"of earlier changes too", "1d0\n" + a + noFeed + "5a5\n" + b + noFeed + "6d6\n" + a, []api.Hunk{
			samples.Hunk([4]int{1, 1, 0, 0}, "-a"), samples.Hunk([4]int{5, 0, 5, 1}, "+b"), samples.Hunk([4]int{6, 1, 6, 0}, "-a\n"),
		}},
		{"behind a blank", "1c1\n<  \n" + noFeed + "---\n>  \n" + noFeed, []api.Hunk{samples.Hunk([4]int{1, 1, 1, 1}, "- ", "+ ")}},
		{"behind a return", "1d0\n< \r\n" + noFeed, []api.Hunk{samples.Hunk([4]int{1, 1, 0, 0}, "-\r")}},
		{"behind the mark as a line", "1d0\n< " + noFeed + noFeed, []api.Hunk{samples.Hunk([4]int{1, 1, 0, 0}, "-"+strings.TrimSuffix(noFeed, "\n"))}},
	} {
		t.Run(c.name, func(t *testing.T) { checkParse(t, c.text, c.want) })
	}
	for _, c := range []struct {
		name string
		text string
		at   int
	}{
		{"at the front", noFeed, 1},
		{"at the front of others", noFeed + "1d0\n" + a, 1},
		{"behind the line that says what goes", "1d0\n" + noFeed + a, 2},
		{"behind the line that says what comes", "0a1\n" + noFeed + b, 2},
		{"behind the line that says both", "1c1\n" + noFeed + a + "---\n" + b, 2},
		{"behind the divider", "1c1\n" + a + "---\n" + noFeed + b, 4},
		{"behind an old line that is not the last", "1,2d0\n" + a + noFeed + a, 3},
		{"behind a new line that is not the last", "0a1,2\n" + b + noFeed + b, 3},
		{"twice behind what goes", "1d0\n" + a + noFeed + noFeed, 4},
		{"twice behind what comes", "0a1\n" + b + noFeed + noFeed, 4},
		{"twice behind old lines", "1c1\n" + a + noFeed + noFeed + "---\n" + b, 4},
		{"twice behind new lines", "1c1\n" + a + "---\n" + b + noFeed + noFeed, 6},
		{"behind an empty line that goes", "1d0\n< \n" + noFeed, 3},
		{"behind an empty line that comes", "0a1\n> \n" + noFeed, 3},
		{"behind an empty old line", "1c1\n< \n" + noFeed + "---\n" + b, 3},
		{"behind an empty new line", "1c1\n" + a + "---\n> \n" + noFeed, 5},
		{"behind an empty last one of several", "1,2d0\n" + a + "< \n" + noFeed, 4},
	} {
		t.Run(c.name, func(t *testing.T) { checkFault(t, c.text, c.at, api.ErrText) })
	}
}

// Only just the mark is one.
func TestParseOfWhatIsNearlyTheMark(t *testing.T) {
	const bare = `\ No newline at end of file`
	wrong := []string{
		bare, bare + " \n", " " + bare + "\n", bare + "\r\n", bare + ".\n", bare + "\x00\n", "\n", "\\\n", "\\ \n", "\\", "\\ No newline\n",
		strings.ToLower(bare) + "\n", "/ No newline at end of file\n", "\\  No newline at end of file\n", "\\No newline at end of file\n",
	}
	for i := range len(bare) {
		wrong = append(wrong, bare[:i]+bare[i+1:]+"\n", bare[:i]+"x"+bare[i+1:]+"\n", bare[:i]+"x"+bare[i:]+"\n", bare[:i])
	}
	for _, line := range wrong {
		if line == "" {
			continue
		}
		checkFault(t, "1d0\n< a\n"+line, 3, api.ErrText)
		checkFault(t, "0a1\n> a\n"+line, 3, api.ErrText)
		checkFault(t, "1c1\n< a\n"+line, 3, api.ErrText)
		checkFault(t, "1c1\n< a\n---\n> b\n"+line, 5, api.ErrText)
	}
}

// rightChanges are lines that say a change, and what they say.
func rightChanges() map[string][4]int {
	const top = api.MaxNumber
	return map[string][4]int{
		"1d0":                                {1, 1, 0, 0},
		"1d1":                                {1, 1, 1, 0},
		"1,2d0":                              {1, 2, 0, 0},
		"9,10d11":                            {9, 2, 11, 0},
		"0a1":                                {0, 0, 1, 1},
		"1a1":                                {1, 0, 1, 1},
		"0a1,2":                              {0, 0, 1, 2},
		"10a20,30":                           {10, 0, 20, 11},
		"1c1":                                {1, 1, 1, 1},
		"1,2c1":                              {1, 2, 1, 1},
		"1c1,2":                              {1, 1, 1, 2},
		"1,2c3,5":                            {1, 2, 3, 3},
		"2147483647d0":                       {top, 1, 0, 0},
		"1d2147483647":                       {1, 1, top, 0},
		"1,2147483647d2147483647":            {1, top, top, 0},
		"2147483646,2147483647d0":            {top - 1, 2, 0, 0},
		"2147483647a2147483647":              {top, 0, top, 1},
		"0a1,2147483647":                     {0, 0, 1, top},
		"2147483647c2147483647":              {top, 1, top, 1},
		"1,2147483647c2147483646,2147483647": {1, top, top - 1, 2},
		"1000000000c1000000000,2147483647":   {1000000000, 1, 1000000000, top - 999999999},
		"2,2147483647c1,2147483647":          {2, top - 1, 1, top},
		"1073741824,2147483647d1073741823":   {1 << 30, 1 << 30, 1<<30 - 1, 0},
		"100,101c100,101":                    {100, 2, 100, 2},
		"4096,4097c4097,4098":                {4096, 2, 4097, 2},
		"1999999999,2000000000c1,1234567890": {1999999999, 2, 1, 1234567890},
		"2147483640a2147483647":              {2147483640, 0, top, 1},
	}
}

// As many lines as are said must stand there; a line that says a change well is not what is wrong.
func TestParseOfRightChanges(t *testing.T) {
	for line, want := range rightChanges() {
		checkFault(t, line, 1, api.ErrText)
		checkFault(t, line+"\n", 2, api.ErrShort)
		if want[1] > 100 || want[3] > 100 {
			continue
		}
		text := line + "\n" + strings.Repeat("< a\n", want[1])
		if want[1] > 0 && want[3] > 0 {
			text += "---\n"
		}
		text += strings.Repeat("> b\n", want[3])
		marks := slices.Concat(slices.Repeat(samples.Marks("-a\n"), want[1]), slices.Repeat(samples.Marks("+b\n"), want[3]))
		checkParse(t, text, []api.Hunk{{A: want[0], AN: want[1], B: want[2], BN: want[3], Lines: marks}})
	}
}

// wrongChanges are lines that say no change.
func wrongChanges() []string {
	return []string{
		"", " ", "a", "c", "d", "1", "0", "12", "1,2", "x", "hello", "--- a", "diff a b", "---", "< a", "> a", "<", ">", "\x00", "\xff",
		"1d", "d1", "1a", "a1", "1c", "c1", "ad", ",d,", "1,d0", ",1d0", "1,2,d0", "1,2,3d0", "1d,", "1d0,", "1d,0", "1d0,1", "1d1,2", "1d1,2,3",
		"0,1a1", "1,2a1", "1,2a3,4", "1,a2", "1a,2", "1a2,", "1a2,3,4", "1c1,", "1c,1", "1,c1", ",1c1", "1,2c1,2,3", "1,,2d0", "1..2d0", "1-2d0", "1;2d0",
		" 1d0", "1d0 ", "1 d0", "1d 0", "1, 2d0", "1 ,2d0", "1d0\t", "\t1d0", "1d0\r", "1d0\x00", "1d\x000", "1d0 a", "1 d 0",
		"01d0", "1d00", "00a1", "1d01", "1a01", "01a1", "1,02d0", "01,2d0", "1c01", "01c1", "1c1,02", "0a01,2", "001d0", "1d000",
		"0d0", "0d1", "0,1d0", "0,2d0", "1a0", "0a0", "0a0,1", "1a0,2", "0c1", "1c0", "0c0", "0,1c1", "1c0,1", "0,0d0", "0a0,0",
		"1,1d0", "2,1d0", "1,0d0", "10,9d0", "2147483647,1d0", "2147483647,2147483647d0", "2,2147483646,2147483647d0",
		"0a1,1", "0a2,1", "0a1,0", "1,1c1", "2,1c1", "1c1,1", "1c2,1", "1,2c2,2", "2,2c1,2",
		"2147483648d0", "1d2147483648", "1,2147483648d0", "2147483648a1", "0a2147483648", "0a1,2147483648", "2147483648c1", "1c2147483648", "1,2147483648c1", "1c1,2147483648",
		"2147483647,2147483648d0", "4294967297d0", "1d4294967296", "1,4294967298d0", "9999999999d0", "1d10000000000",
		"9223372036854775807d0", "1,9223372036854775807d0", "9223372036854775808d0", "18446744073709551617d0", "1d18446744073709551616", "1,18446744073709551618d0",
		"99999999999999999999d0", "1d99999999999999999999", "0a99999999999999999999", "0a1,99999999999999999999", "1,99999999999999999999c1", strings.Repeat("9", 400) + "d0", "1d1" + strings.Repeat("0", 400),
		"1b1", "1e0", "1D0", "1A1", "1C1", "1i2", "1?0", "1:0", "1=0", "1\\0", "1\xe40", "1\u00e40", "1/0",
		"1dd0", "1aa1", "1cc1", "1ac1", "1cd1", "1da0", "1ad1", "1d0d", "1d0a", "a1d0", "d1d0", "1d0d0", "1a1a1", "1c1c1", "1a2c3", "1c1d", "1,2d,3c4",
		"+1d0", "-1d0", "1d+0", "1d-1", "-0d0", "1d-0", "1,+2d0", "0x1d0", "1_0d0", "1e1d0", "1.0d0", "\uff11d0", "\u0661d0", "1d\u0660", "\"1\"d0",
	}
}

func TestParseOfWrongChanges(t *testing.T) {
	for _, line := range wrongChanges() {
		checkFault(t, line+"\n", 1, api.ErrText)
		checkFault(t, line+"\n< a\n", 1, api.ErrText)
		checkFault(t, line+"\n< a\n---\n> b\n", 1, api.ErrText)
		checkFault(t, line+"\n> b\n> c\n", 1, api.ErrText)
		checkFault(t, "1d0\n< a\n"+line+"\n", 3, api.ErrText)
		checkFault(t, "1d0\n< a\n"+noFeed+line+"\n", 4, api.ErrText)
		checkFault(t, "1c1\n< a\n---\n> b\n"+line+"\n", 5, api.ErrText)
		if line != "" {
			checkFault(t, line, 1, api.ErrText)
			checkFault(t, "0a1\n> b\n"+line, 3, api.ErrText)
		}
	}
}

// Each line that may say a change, of a few digits, and each letter between two numbers.
func TestParseOfAllShortChanges(t *testing.T) {
	right := 0
	samples.Texts("012,acd", 6, func(s string) {
		checkByWords(t, s+"\n")
		if _, ok := changeByWords(s + "\n"); ok {
			right++
		}
	})
	if right < 1000 {
		t.Errorf("only %d of them say a change", right)
	}
	samples.Texts("1 d0\x00<", 5, func(s string) { checkByWords(t, s+"\n") })
	for c := range 256 {
		for _, text := range []string{"1" + string([]byte{byte(c)}) + "1", "1" + string([]byte{byte(c)}) + "2d0", string([]byte{byte(c)}) + "1d0", "1d0" + string([]byte{byte(c)})} {
			checkByWords(t, text+"\n")
			checkByWords(t, text+"\n< a\n")
		}
	}
}

// What must stand behind the line that says a change, and does not.
func TestParseOfWrongTexts(t *testing.T) {
	for _, c := range []struct {
		name string
		text string
		at   int
		code api.Errno
	}{
		{"too few old lines", "1,2d0\n< a\n", 3, api.ErrShort},
		{"too few old lines ahead of another change", "1,2d0\n< a\n5d3\n< b\n", 3, api.ErrText},
		{"too few old lines ahead of the divider", "1,2c1\n< a\n---\n> b\n", 3, api.ErrText},
		{"too few new lines", "0a1,2\n> a\n", 3, api.ErrShort},
		{"too few new lines ahead of another change", "0a1,2\n> a\n5d3\n< b\n", 3, api.ErrText},
		{"too few new lines of both", "1c1,2\n< a\n---\n> b\n", 5, api.ErrShort},
		{"no lines at all", "1c1\n", 2, api.ErrShort},
		{"no divider at the end", "1c1\n< a\n", 3, api.ErrShort},
		{"no divider at the end, behind the mark", "1c1\n< a\n" + noFeed, 4, api.ErrShort},
		{"no new lines", "1c1\n< a\n---\n", 4, api.ErrShort},
		{"very many lines that are not there", "1,2147483647d0\n< a\n< b\n", 4, api.ErrShort},
		{"too many old lines", "1d0\n< a\n< b\n", 3, api.ErrText},
		{"too many old lines of both", "1c1\n< a\n< b\n---\n> c\n", 3, api.ErrText},
		{"too many new lines", "0a1\n> a\n> b\n", 3, api.ErrText},
		{"too many new lines of both", "1c1\n< a\n---\n> b\n> c\n", 5, api.ErrText},
		{"the other sign for old lines", "1d0\n> a\n", 2, api.ErrText},
		{"the other sign for new lines", "0a1\n< a\n", 2, api.ErrText},
		{"the other sign for old lines of both", "1c1\n> a\n---\n> b\n", 2, api.ErrText},
		{"the other sign for new lines of both", "1c1\n< a\n---\n< b\n", 4, api.ErrText},
		{"signs of another form", "1d0\n- a\n", 2, api.ErrText},
		{"signs of another form for new lines", "0a1\n+ a\n", 2, api.ErrText},
		{"an old line without its blank", "1d0\n<a\n", 2, api.ErrText},
		{"a new line without its blank", "0a1\n>a\n", 2, api.ErrText},
		{"an old line that is a sign alone", "1d0\n<\n", 2, api.ErrText},
		{"a new line that is a sign alone", "0a1\n>\n", 2, api.ErrText},
		{"a tab for the blank", "1d0\n<\ta\n", 2, api.ErrText},
		{"an old line that is nothing", "1d0\n\n", 2, api.ErrText},
		{"a new line that is nothing", "0a1\n\n", 2, api.ErrText},
		{"a blank ahead of the sign", "1d0\n < a\n", 2, api.ErrText},
		{"an old line without its feed", "1d0\n< a", 2, api.ErrText},
		{"an old line without its feed, ahead of others", "1,2d0\n< a", 2, api.ErrText},
		{"a new line without its feed", "0a1\n> a", 2, api.ErrText},
		{"a new line of both without its feed", "1c1\n< a\n---\n> b", 4, api.ErrText},
		{"a sign without its feed", "1d0\n< ", 2, api.ErrText},
		{"the divider left out", "1c1\n< a\n> b\n", 3, api.ErrText},
		{"the divider twice", "1c1\n< a\n---\n---\n> b\n", 4, api.ErrText},
		{"the divider ahead of old lines", "1c1\n---\n< a\n> b\n", 2, api.ErrText},
		{"the divider at the front", "---\n1d0\n< a\n", 1, api.ErrText},
		{"the divider behind what goes", "1d0\n< a\n---\n", 3, api.ErrText},
		{"the divider behind the line that says what goes", "1d0\n---\n< a\n", 2, api.ErrText},
		{"the divider ahead of what comes", "0a1\n---\n> a\n", 2, api.ErrText},
		{"the divider behind both", "1c1\n< a\n---\n> b\n---\n", 5, api.ErrText},
		{"the divider with a byte more", "1c1\n< a\n----\n> b\n", 3, api.ErrText},
		{"the divider with a blank more", "1c1\n< a\n--- \n> b\n", 3, api.ErrText},
		{"the divider with a return more", "1c1\n< a\n---\r\n> b\n", 3, api.ErrText},
		{"the divider with a blank ahead", "1c1\n< a\n ---\n> b\n", 3, api.ErrText},
		{"the divider with a byte less", "1c1\n< a\n--\n> b\n", 3, api.ErrText},
		{"the divider without its feed", "1c1\n< a\n---", 3, api.ErrText},
		{"an empty line in its place", "1c1\n< a\n\n> b\n", 3, api.ErrText},
		{"an empty line at the front", "\n1d0\n< a\n", 1, api.ErrText},
		{"an empty line at the end", "1d0\n< a\n\n", 3, api.ErrText},
		{"a change without its feed behind others", "1d0\n< a\n2d0", 3, api.ErrText},
		{"a change ahead of its feed's return", "1d0\r\n< a\n", 1, api.ErrText},
		{"two wrong lines: a change, and a line", "1d\n> a\n", 1, api.ErrText},
		{"two wrong lines: a line, and a change", "1d0\n> a\n1,1d0\n", 2, api.ErrText},
		{"two wrong lines: the first change has one, the second another", "1d0\n< a\n2d0\n> a\n3d0\n> a\n", 4, api.ErrText},
		{"two wrong lines: a line, and the text ends", "1,3d0\n< a\n> b\n", 3, api.ErrText},
		{"two wrong lines: a line, and one without its feed", "1,3d0\n<a\n< b", 2, api.ErrText},
	} {
		t.Run(c.name, func(t *testing.T) {
			checkFault(t, c.text, c.at, c.code)
			checkByWords(t, c.text)
		})
	}
}

// Rows of lines of all the kinds that there are, the last one with and without its line feed.
func TestParseOfAllShortRowsOfLines(t *testing.T) {
	kinds := []string{"1d0\n", "0a1\n", "1c1\n", "1,2c1\n", "1c3,4\n", "< a\n", "> b\n", "---\n", noFeed, "< \n", "> \n", "x\n"}
	right := 0
	samples.Lists(kinds, 5, func(l []string) {
		text := strings.Join(l, "")
		checkByWords(t, text)
		checkByWords(t, strings.TrimSuffix(text, "\n"))
		if _, _, code := parseByWords(text); code == api.OK {
			right++
		}
	})
	if right < 50 {
		t.Errorf("only %d of them are right", right)
	}
	fewer := []string{"1c1\n", "1,2d0\n", "< a\n", "> b\n", "---\n", noFeed}
	samples.Lists(fewer, 7, func(l []string) { checkByWords(t, strings.Join(l, "")) })
}

func TestParseOfAllShortTexts(t *testing.T) {
	samples.Texts("1d0\n< a", 7, func(s string) { checkByWords(t, s) })
	samples.Texts("01,c\n>-\\", 6, func(s string) { checkByWords(t, s) })
}

// aText has all that a text in the normal form may have.
const aText = "1,2d0\n< a\n< \n5a4,5\n> b\n> \x00c\n12c12\n< d\n---\n> e\n20,22c20\n< f\n< g\n< h\n" + noFeed + "---\n> i\n" + noFeed + "30d30\n< j\n" + noFeed + "0a2147483647\n> k\n" + noFeed

func TestParseOfTextsThatEndBehindEachByte(t *testing.T) {
	if _, _, code := parseByWords(aText); code != api.OK {
		t.Fatalf("the text is wrong: %d", code)
	}
	for i := range len(aText) + 1 {
		checkByWords(t, aText[:i])
		checkByWords(t, aText[:i]+"\n")
		checkByWords(t, aText[i:])
		if at := 1 + strings.Count(aText[:i], "\n"); i > 0 && aText[i-1] != '\n' {
			checkFault(t, aText[:i], at, api.ErrText)
		}
	}
}

// Another byte at each place, a byte more, a byte less, two lines exchanged, one left out or twice there.
func TestParseOfTextsThatAreNearlyRight(t *testing.T) {
	samples.Nearly(aText, func(text string) { checkByWords(t, text) })
}

// Limits.

func TestParseOfTextsOfAllBytesThatMayBe(t *testing.T) {
	line := strings.Repeat("x", api.MaxText-len("1d0\n< \n")) + "\n"
	checkParse(t, "1d0\n< "+line, []api.Hunk{samples.Hunk([4]int{1, 1, 0, 0}, "-"+line)})
	checkFault(t, "1d0\n< x"+line, 0, api.ErrLong)
	checkFault(t, "1d0\n> "+line, 2, api.ErrText)
	checkFault(t, "1d0\n>x "+line, 0, api.ErrLong)
	for _, wrong := range []string{"\n", "x", "\x00", "< a\n"} {
		text := strings.Repeat(wrong, api.MaxText)
		checkFault(t, text[:api.MaxText], 1, api.ErrText)
		if len(text) > api.MaxText {
			checkFault(t, text, 0, api.ErrLong)
		}
		checkFault(t, text[:api.MaxText]+"\n", 0, api.ErrLong)
		checkFault(t, text+text, 0, api.ErrLong)
	}
	const n = (api.MaxText - len("1,9999999d0\n")) / len("< \n")
	head := "1," + strconv.Itoa(n) + "d0\n"
	checkParse(t, head+strings.Repeat("< \n", n), []api.Hunk{{A: 1, AN: n, Lines: slices.Repeat(samples.Marks("-\n"), n)}})
	checkFault(t, head+strings.Repeat("< \n", n-1), n+1, api.ErrShort)
	checkFault(t, head+strings.Repeat("< \n", n-1)+"> \n", n+1, api.ErrText)
}

func TestParseOfAsManyChangesAsMayBe(t *testing.T) {
	const most = api.MaxHunks
	for _, c := range []struct {
		text  string
		lines int
		want  api.Hunk
	}{
		{"1d0\n< a\n", 2, samples.Hunk([4]int{1, 1, 0, 0}, "-a\n")},
		{"0a1,2\n> a\n> b\n", 3, samples.Hunk([4]int{0, 0, 1, 2}, "+a\n", "+b\n")},
		{"1c1\n< a\n" + noFeed + "---\n> b\n", 5, samples.Hunk([4]int{1, 1, 1, 1}, "-a", "+b\n")},
		{"1d0\n< a\n" + noFeed, 3, samples.Hunk([4]int{1, 1, 0, 0}, "-a")},
	} {
		full, end := strings.Repeat(c.text, most), most*c.lines
		checkParse(t, full, slices.Repeat([]api.Hunk{c.want}, most))
		checkParse(t, full[len(c.text):], slices.Repeat([]api.Hunk{c.want}, most-1))
		for _, more := range []string{c.text, "1d0\n", "1d0\nx\n", "1d0\n> a\n", "1d0\n< a", "0a1\n\n", "1,2147483647c5\nx", c.text + "x\n", c.text + c.text, full} {
			checkFault(t, full+more, end+1, api.ErrLong)
		}
		for _, wrong := range []string{"x\n", "1d0", "1,1d0\n", "1d0 \n", "2147483648d0\n", "---\n", "< a\n", "> a\n", "\n", "x", "\\\n"} {
			checkFault(t, full+wrong, end+1, api.ErrText)
			checkFault(t, full+wrong+c.text, end+1, api.ErrText)
		}
		checkByWords(t, full+noFeed)
		checkByWords(t, full+noFeed+noFeed)
		checkByWords(t, full+noFeed+c.text)
		checkFault(t, "x\n"+full+c.text, 1, api.ErrText)
		checkFault(t, full[:len(full)-len(c.text)]+"7d7\nx\n"+c.text+c.text, end-c.lines+2, api.ErrText)
	}
}

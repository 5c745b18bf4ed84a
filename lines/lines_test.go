package lines_test

import (
	"slices"
	"strings"
	"testing"

	"redline/api"
	"redline/lines"
	"redline/samples"
)

// linesByBytes is a text's lines, found byte by byte.
func linesByBytes(s string) []string {
	var l []string
	line := ""
	for _, c := range []byte(s) {
		line += string([]byte{c})
		if c == 10 {
			l = append(l, line)
			line = ""
		}
	}
	if line != "" {
		l = append(l, line)
	}
	return l
}

// isRight says by the words of the chapter whether a list is the lines of some text.
func isRight(l []string) bool {
	for i, s := range l {
		feeds := strings.Count(s, "\n")
		lacks := i == len(l)-1 && feeds == 0
		ended := feeds == 1 && s[len(s)-1] == '\n'
		if s == "" || !lacks && !ended {
			return false
		}
	}
	return true
}

// manyLines is a text of more lines than any limit allows, and of more bytes.
func manyLines() (string, int) {
	n := api.MaxText/8 + api.MaxLines
	return strings.Repeat("a line of\n", n), n
}

// Promise 2.1.

func TestSplitOfEdges(t *testing.T) {
	for _, c := range []struct {
		s    string
		want []string
	}{
		{"", nil},
		{"\n", []string{"\n"}},
		{"\n\n", []string{"\n", "\n"}},
		{"a", []string{"a"}},
		{"a\n", []string{"a\n"}},
		{"a\nb", []string{"a\n", "b"}},
		{"a\nb\n", []string{"a\n", "b\n"}},
		{"\na", []string{"\n", "a"}},
		{"a\n\nb", []string{"a\n", "\n", "b"}},
		{"a\r\nb\rc\n", []string{"a\r\n", "b\rc\n"}},
		{" \n\t", []string{" \n", "\t"}},
		{"a\x00\n\x00", []string{"a\x00\n", "\x00"}},
		{"\xff\n\xc3\n\u2028\u0085\v\f", []string{"\xff\n", "\xc3\n", "\u2028\u0085\v\f"}},
	} {
		if l := lines.Split(c.s); !slices.Equal(l, c.want) {
			t.Errorf("lines of %q: %q, want %q", c.s, l, c.want)
		}
	}
}

func TestSplitOfAllShortTexts(t *testing.T) {
	samples.Texts("a\n\r\x00", 6, func(s string) {
		if l, want := lines.Split(s), linesByBytes(s); !slices.Equal(l, want) {
			t.Errorf("lines of %q: %q, want %q", s, l, want)
		}
	})
}

func TestSplitHasNoLimit(t *testing.T) {
	s, n := manyLines()
	l := lines.Split(s + "end")
	if len(l) != n+1 || l[0] != "a line of\n" || l[n-1] != "a line of\n" || l[n] != "end" {
		t.Errorf("%d lines, want %d", len(l), n+1)
	}
	if l := lines.Split(strings.Repeat("x", 2*api.MaxText)); len(l) != 1 || len(l[0]) != 2*api.MaxText {
		t.Errorf("a long line is %d lines", len(l))
	}
}

func TestSplitAnswersNewMemory(t *testing.T) {
	s := "a\nb\nc"
	l := lines.Split(s)
	l[0], l[1], l[2] = "x", "y", "z"
	if m := lines.Split(s); !slices.Equal(m, []string{"a\n", "b\n", "c"}) {
		t.Errorf("lines %q behind a change of another answer", m)
	}
}

func TestJoinTakesWhateverMembers(t *testing.T) {
	for _, c := range []struct {
		l    []string
		want string
	}{
		{nil, ""},
		{[]string{}, ""},
		{[]string{""}, ""},
		{[]string{"", "", ""}, ""},
		{[]string{"a"}, "a"},
		{[]string{"a", "b"}, "ab"},
		{[]string{"a\n", "b"}, "a\nb"},
		{[]string{"a", "", "\n", "b\nc", "\n\n"}, "a\nb\nc\n\n"},
		{[]string{"\x00", "\xff", "\xc3", "\xa4"}, "\x00\xffä"},
	} {
		if s := lines.Join(c.l); s != c.want {
			t.Errorf("text of %q: %q, want %q", c.l, s, c.want)
		}
	}
}

func TestListsAreLeftAlone(t *testing.T) {
	room := []string{"a\n", "b", "behind"}
	lines.Join(room[:2])
	lines.Check(room[:2])
	if !slices.Equal(room, []string{"a\n", "b", "behind"}) {
		t.Errorf("the list has become %q", room)
	}
}

func TestCheckOfEdges(t *testing.T) {
	for _, c := range []struct {
		l    []string
		want api.Errno
	}{
		{nil, api.OK},
		{[]string{}, api.OK},
		{[]string{"a"}, api.OK},
		{[]string{"\n"}, api.OK},
		{[]string{"a\n"}, api.OK},
		{[]string{"a\n", "b"}, api.OK},
		{[]string{"a\n", "b\n"}, api.OK},
		{[]string{"\n", "\n", "\n"}, api.OK},
		{[]string{"a\r\n", "\x00\n", "\xff"}, api.OK},
		{[]string{""}, api.ErrField},
		{[]string{"", "a\n"}, api.ErrField},
		{[]string{"a\n", ""}, api.ErrField},
		{[]string{"a\n", "", "b\n"}, api.ErrField},
		{[]string{"a", "b\n"}, api.ErrField},
		{[]string{"a", "b"}, api.ErrField},
		{[]string{"a\n", "b", "c\n"}, api.ErrField},
		{[]string{"a\nb"}, api.ErrField},
		{[]string{"a\nb\n"}, api.ErrField},
		{[]string{"\nb"}, api.ErrField},
		{[]string{"\n\n"}, api.ErrField},
		{[]string{"a\n\n"}, api.ErrField},
		{[]string{"x\n", "a\nb\n", "y\n"}, api.ErrField},
		{[]string{"x\n", "y\n", "a\nb"}, api.ErrField},
	} {
		if err := lines.Check(c.l); err != c.want {
			t.Errorf("check of %q: %d, want %d", c.l, err, c.want)
		}
	}
}

func TestCheckOfAllShortLists(t *testing.T) {
	var members []string
	samples.Texts("a\n", 3, func(s string) { members = append(members, s) })
	samples.Lists(members, 4, func(l []string) {
		want := api.ErrField
		if isRight(l) {
			want = api.OK
		}
		if err := lines.Check(l); err != want {
			t.Errorf("check of %q: %d, want %d", l, err, want)
		}
	})
}

func TestCheckHasNoLimit(t *testing.T) {
	s, _ := manyLines()
	l := lines.Split(s)
	if err := lines.Check(l); err != api.OK {
		t.Errorf("check of many lines: %d", err)
	}
	if err := lines.Check(append(l, "a\n", "")); err != api.ErrField {
		t.Errorf("check of many lines and an empty one: %d", err)
	}
}

// Promise 2.2.

func TestBare(t *testing.T) {
	for _, c := range []struct {
		s, want string
		ok      bool
	}{
		{"", "", false},
		{"\n", "", true},
		{"a\n", "a", true},
		{"a", "a", false},
		{"a\n\n", "a\n", true},
		{"\n\n", "\n", true},
		{"a\nb", "a\nb", false},
		{"\na", "\na", false},
		{"a\r\n", "a\r", true},
		{"a\n\r", "a\n\r", false},
		{"a\n ", "a\n ", false},
		{"\x00\xff\n", "\x00\xff", true},
		{"\u2028", "\u2028", false},
	} {
		if s, ok := lines.Bare(c.s); s != c.want || ok != c.ok {
			t.Errorf("bare %q: %q, %v, want %q, %v", c.s, s, ok, c.want, c.ok)
		}
	}
}

func TestBareOfAllShortTexts(t *testing.T) {
	samples.Texts("a\n\r", 5, func(s string) {
		if b, ok := lines.Bare(s + "\n"); b != s || !ok {
			t.Errorf("bare %q: %q, %v", s+"\n", b, ok)
		}
		if b, ok := lines.Bare(s + "x"); b != s+"x" || ok {
			t.Errorf("bare %q: %q, %v", s+"x", b, ok)
		}
	})
}

func TestBinaryIsAByte0(t *testing.T) {
	if lines.Binary("") {
		t.Error("the empty text is binary")
	}
	for c := range 256 {
		s := string([]byte{byte(c)})
		for _, s := range []string{s, "a" + s, s + "a", "a\n" + s + "\n"} {
			if b := lines.Binary(s); b != (c == 0) {
				t.Errorf("binary %q: %v", s, b)
			}
		}
	}
	for _, s := range []string{"0", "\\0", "\u0100", "\u0080", strings.Repeat("a\n", api.MaxText)} {
		if lines.Binary(s) {
			t.Errorf("a text of %d bytes without a byte 0 is binary", len(s))
		}
	}
	if !lines.Binary(strings.Repeat("a\n", api.MaxText) + "\x00") {
		t.Error("a byte 0 at the end of a long text is not found")
	}
}

// Promise 2.3.

func TestFirstOfEdges(t *testing.T) {
	for _, c := range []struct {
		a, b string
		n, k int
	}{
		{"", "a", 1, 1},
		{"", "\n", 1, 1},
		{"ab", "abc", 3, 1},
		{"ab", "ab\n", 3, 1},
		{"ab\n", "ab\nc", 4, 2},
		{"\n", "\n\n", 2, 2},
		{"\n\n\n", "\n\n\na", 4, 4},
		{"a", "b", 1, 1},
		{"a\nb", "a\nc", 3, 2},
		{"a\nb\nc", "a\n\nc", 3, 2},
		{"a\nb", "a b", 2, 1},
		{"a\nb\n", "a\nb ", 4, 2},
		{"a\r\nb", "a\nb", 2, 1},
		{"ab\ncd\nef\n", "ab\ncd\neg\n", 8, 3},
		{"ax\n\n\n", "ay\n\n\n", 2, 1},
		{"\x00", "\x00\x00", 2, 1},
		{"\xff\n\xfe", "\xff\n\xff", 3, 2},
		{"ä", "ö", 2, 1},
	} {
		for _, p := range [][2]string{{c.a, c.b}, {c.b, c.a}} {
			if n, k, ok := lines.First(p[0], p[1]); n != c.n || k != c.k || !ok {
				t.Errorf("first of %q and %q: %d, %d, %v, want %d, %d, true", p[0], p[1], n, k, ok, c.n, c.k)
			}
		}
	}
}

func TestFirstOfTheSame(t *testing.T) {
	s, _ := manyLines()
	for _, s := range []string{"", "a", "\n", "ab", "a\nb\n", "\x00\xff", s} {
		if n, k, ok := lines.First(s, strings.Clone(s)); n != 0 || k != 0 || ok {
			t.Errorf("first of the same: %d, %d, %v", n, k, ok)
		}
	}
}

func TestFirstOfLongTexts(t *testing.T) {
	s, lineCount := manyLines()
	if n, k, ok := lines.First(s+"x", s+"y"); n != len(s)+1 || k != lineCount+1 || !ok {
		t.Errorf("first: %d, %d, %v, want %d, %d, true", n, k, ok, len(s)+1, lineCount+1)
	}
	if n, k, ok := lines.First(s[:len(s)-1], s); n != len(s) || k != lineCount || !ok {
		t.Errorf("first: %d, %d, %v, want %d, %d, true", n, k, ok, len(s), lineCount)
	}
}

// checkFirst holds what First answers against what the chapter says of a place: all ahead of it is alike, it is not.
func checkFirst(t *testing.T, a, b string) {
	n, k, ok := lines.First(a, b)
	if ok != (a != b) {
		t.Fatalf("first of %q and %q: %v", a, b, ok)
	}
	if !ok {
		if n != 0 || k != 0 {
			t.Errorf("first of %q and itself: %d, %d", a, n, k)
		}
		return
	}
	if n < 1 || n > len(a)+1 || n > len(b)+1 || a[:n-1] != b[:n-1] {
		t.Fatalf("first of %q and %q: byte %d: what is ahead is not alike", a, b, n)
	}
	if n <= len(a) && n <= len(b) && a[n-1] == b[n-1] {
		t.Errorf("first of %q and %q: byte %d is alike", a, b, n)
	}
	if want := len(strings.Split(a[:n-1], "\n")); k != want {
		t.Errorf("first of %q and %q: line %d, want %d", a, b, k, want)
	}
}

func TestFirstOfAllShortTexts(t *testing.T) {
	samples.Texts("ab\n", 4, func(a string) {
		samples.Texts("ab\n", 4, func(b string) { checkFirst(t, a, b) })
	})
}

// Promise 2.4.

func TestJoinOfSplitIsTheText(t *testing.T) {
	samples.Texts("a\n\r\x00", 6, func(s string) {
		l := lines.Split(s)
		if err := lines.Check(l); err != api.OK {
			t.Errorf("lines %q of %q are not right: %d", l, s, err)
		}
		if j := lines.Join(l); j != s {
			t.Errorf("text %q, want %q", j, s)
		}
	})
	s, _ := manyLines()
	if lines.Join(lines.Split(s)) != s {
		t.Error("a long text does not come back")
	}
}

func TestSplitOfJoinIsTheLines(t *testing.T) {
	right := 0
	samples.Lists([]string{"a\n", "\n", "b\r\n", "\x00\n", "c", " ", "", "a\nb"}, 4, func(l []string) {
		back := slices.Equal(lines.Split(lines.Join(l)), l)
		// Lists that are not right are the lines of no text: they do not come back.
		if ok := lines.Check(l) == api.OK; ok != back {
			t.Errorf("%q: right: %v, comes back: %v", l, ok, back)
		}
		if back {
			right++
		}
	})
	if right == 0 {
		t.Error("no list was right")
	}
}

func FuzzAnyLines(f *testing.F) {
	for _, s := range []string{"", "\n", "a", "a\n", "a\nb", "\n\n", "\x00\n\xff"} {
		f.Add(s, s+"\n")
	}
	f.Fuzz(func(t *testing.T, a, b string) {
		l := lines.Split(a)
		if lines.Join(l) != a || lines.Check(l) != api.OK || !slices.Equal(l, linesByBytes(a)) {
			t.Errorf("lines %q of %q", l, a)
		}
		if err := lines.Check([]string{a, b}); (err == api.OK) != isRight([]string{a, b}) {
			t.Errorf("check of %q and %q: %d", a, b, err)
		}
		checkFirst(t, a, b)
	})
}

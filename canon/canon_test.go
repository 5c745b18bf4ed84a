package canon_test

import (
	"regexp"
	"strings"
	"testing"

	"redline/api"
	"redline/canon"
	"redline/lines"
	"redline/samples"
)

var (
	none = api.Ignore{}
	all  = api.Ignore{Space: true, White: true, Blank: true, Case: true, Tabs: true, Trail: true}

	run   = regexp.MustCompile("[ \t\v\f\r]+")
	atEnd = regexp.MustCompile("[ \t\v\f\r]+$")
)

// expandByWords replaces the first tab until there is none: all ahead of it takes one column a byte.
func expandByWords(s string) string {
	for {
		at := strings.IndexByte(s, '\t')
		if at < 0 {
			return s
		}
		next := at + 1
		for next%8 != 0 {
			next++
		}
		s = s[:at] + strings.Repeat(" ", next-at) + s[at+1:]
	}
}

// canonByWords is the chapter's sentence, clause by clause.
func canonByWords(line string, o api.Ignore) string {
	text := strings.TrimSuffix(line, "\n")
	if o.Tabs {
		text = expandByWords(text)
	}
	if o.White {
		text = run.ReplaceAllString(text, "")
	}
	if o.Space {
		text = atEnd.ReplaceAllString(run.ReplaceAllString(text, " "), "")
	}
	if o.Trail {
		text = atEnd.ReplaceAllString(text, "")
	}
	if o.Case {
		for c := byte('A'); c <= 'Z'; c++ {
			text = strings.ReplaceAll(text, string([]byte{c}), string([]byte{c + 32}))
		}
	}
	if strings.HasSuffix(line, "\n") {
		text += "\n"
	}
	return text
}

// Promise 3.1.

func TestExpandOfEdges(t *testing.T) {
	for _, c := range []struct {
		s    string
		want string
	}{
		{"", ""},
		{"\n", "\n"},
		{"a", "a"},
		{"\t", strings.Repeat(" ", 8)},
		{"a\tb", "a       b"},
		{"1234567\tx", "1234567 x"},
		{"12345678\tx", "12345678        x"},
		{"123456789\tx", "123456789       x"},
		{"123456789012345\tx", "123456789012345 x"},
		{"\t\t", strings.Repeat(" ", 16)},
		{"a\t\tb", "a" + strings.Repeat(" ", 15) + "b"},
		{"\ta\t", "        a       "},
		{"a\tb\tc\n", "a       b       c\n"},
		{"a\nb\tc", "a\nb     c"},
		{"1234567\n\tx", "1234567\n        x"},
		{"a\n\t", "a\n      "},
		{"\r\tx", "\r       x"},
		{"\v\f\x00\b\tx", "\v\f\x00\b    x"},
		{"ä\tx", "ä      x"},
		{"\xff\xc3\tx\xff", "\xff\xc3      x\xff"},
		{"        \tx", strings.Repeat(" ", 16) + "x"},
	} {
		if s := canon.Expand(c.s); s != c.want {
			t.Errorf("expanded %q: %q, want %q", c.s, s, c.want)
		}
	}
}

func TestExpandAtEveryColumn(t *testing.T) {
	for n := range 40 {
		front := strings.Repeat("x", n)
		s := canon.Expand(front + "\t")
		if !strings.HasPrefix(s, front) || strings.Trim(s[n:], " ") != "" {
			t.Fatalf("a tab at column %d: %q", n, s)
		}
		if len(s)%8 != 0 || len(s) <= n || len(s) > n+8 {
			t.Errorf("a tab at column %d goes on to %d", n, len(s))
		}
	}
}

func TestExpandOfEveryOtherByte(t *testing.T) {
	for c := range 256 {
		if c == '\t' {
			continue
		}
		s := "ab" + string([]byte{byte(c)})
		if e, want := canon.Expand(s+"\t."), s+"     ."; e != want {
			t.Errorf("expanded with the byte %d: %q, want %q", c, e, want)
		}
	}
}

func TestExpandOfAllShortTexts(t *testing.T) {
	samples.Texts("\ta \n", 6, func(s string) {
		for _, s := range []string{s, "12345" + s} {
			if e, want := canon.Expand(s), expandByWords(s); e != want {
				t.Errorf("expanded %q: %q, want %q", s, e, want)
			}
		}
	})
}

func TestExpandHasNoLimit(t *testing.T) {
	n := api.MaxText + 3
	if s := canon.Expand(strings.Repeat("\t", n)); s != strings.Repeat(" ", 8*n) {
		t.Errorf("%d tabs are %d bytes", n, len(s))
	}
	if s := canon.Expand(strings.Repeat("x", n) + "\t."); s != strings.Repeat("x", n)+strings.Repeat(" ", 5)+"." {
		t.Errorf("a tab at column %d goes on to %d", n, len(s)-1)
	}
}

// Promise 3.2.

func TestCanonWithNothing(t *testing.T) {
	for _, line := range []string{"", "\n", "a", "a\n", " A\t b \n", " \t\v\f\r", " \t\v\f\r\n", "\x00\xffÄ \n", "a\nB \n\n"} {
		for _, o := range []api.Ignore{none, {Blank: true}} {
			if s := canon.Canon(line, o); s != line {
				t.Errorf("%+v: %q: %q", o, line, s)
			}
		}
	}
}

func TestCanonOfEdges(t *testing.T) {
	for _, c := range []struct {
		line string
		o    api.Ignore
		want string
	}{
		{" A\t b \n", api.Ignore{Space: true}, " A b\n"},
		{" A\t b \n", api.Ignore{White: true}, "Ab\n"},
		{" A\t b \n", api.Ignore{Trail: true}, " A\t b\n"},
		{" A\t b \n", api.Ignore{Case: true}, " a\t b \n"},
		{" A\t b \n", api.Ignore{Tabs: true}, " A       b \n"},
		{" A\t b \n", api.Ignore{Case: true, White: true}, "ab\n"},
		{" A\t b \n", api.Ignore{Tabs: true, Trail: true}, " A       b\n"},
		{" A\t b \n", api.Ignore{Tabs: true, Space: true}, " A b\n"},
		{" A\t b \n", api.Ignore{Tabs: true, White: true}, "Ab\n"},
		{" A\t b \n", api.Ignore{Space: true, White: true}, "Ab\n"},
		{" A\t b \n", api.Ignore{Trail: true, Case: true}, " a\t b\n"},
		{" A\t b \n", all, "ab\n"},
		{" A\t b ", all, "ab"},
		{"\t \v\f\r\n", api.Ignore{Space: true}, "\n"},
		{"\t \v\f\r\n", api.Ignore{White: true}, "\n"},
		{"\t \v\f\r\n", api.Ignore{Trail: true}, "\n"},
		{"\t \v\f\r", api.Ignore{Trail: true}, ""},
		{"\t \v\f\r\n", api.Ignore{Tabs: true}, "         \v\f\r\n"},
		{"a\r\n", api.Ignore{Trail: true}, "a\n"},
		{"\t\ta", api.Ignore{Space: true}, " a"},
		{"a\tb", api.Ignore{Space: true}, "a b"},
		{"a \t\v\f\rb \tc", api.Ignore{Space: true}, "a b c"},
		{"a  b", api.Ignore{Trail: true}, "a  b"},
		{" a", api.Ignore{Trail: true}, " a"},
		{"@AZ[`az{\n", api.Ignore{Case: true}, "@az[`az{\n"},
		{"ÄÉ\xc1\xff\n", api.Ignore{Case: true}, "ÄÉ\xc1\xff\n"},
		{"\xa0\x85 \xa0\n", api.Ignore{White: true}, "\xa0\x85\xa0\n"},
		{"a\u00a0\u2003\u0085\n", api.Ignore{Trail: true}, "a\u00a0\u2003\u0085\n"},
		{"a\u00a0\u2003\n", api.Ignore{Space: true}, "a\u00a0\u2003\n"},
	} {
		if s := canon.Canon(c.line, c.o); s != c.want {
			t.Errorf("%+v: %q: %q, want %q", c.o, c.line, s, c.want)
		}
	}
}

// A text with a line feed inside is no line: that line feed is a byte like others, and no white space.
func TestCanonOfWhatIsNoLine(t *testing.T) {
	for _, c := range []struct {
		line string
		o    api.Ignore
		want string
	}{
		{"\n\n", all, "\n\n"},
		{"a \n B\n", api.Ignore{White: true}, "a\nB\n"},
		{"a \n B\n", api.Ignore{Space: true}, "a \n B\n"},
		{"a  \n  B  ", api.Ignore{Space: true}, "a \n B"},
		{"a \n B ", api.Ignore{Trail: true}, "a \n B"},
		{"a \n\n", api.Ignore{Trail: true}, "a \n\n"},
		{"a\n \n", api.Ignore{Trail: true}, "a\n\n"},
		{"a\n\tB", api.Ignore{Tabs: true}, "a\n      B"},
		{"A\nB", api.Ignore{Case: true}, "a\nb"},
	} {
		if s := canon.Canon(c.line, c.o); s != c.want {
			t.Errorf("%+v: %q: %q, want %q", c.o, c.line, s, c.want)
		}
	}
}

func TestCanonOfEveryByte(t *testing.T) {
	for c := range 256 {
		if c == '\n' {
			continue
		}
		b := string([]byte{byte(c)})
		white := c == ' ' || c == 9 || 11 <= c && c <= 13
		small := b
		if 65 <= c && c <= 90 {
			small = string([]byte{byte(c + 32)})
		}
		want := map[api.Ignore]string{
			{White: true}: "x" + b + "y" + b,
			{Space: true}: "x" + b + "y" + b,
			{Trail: true}: "x" + b + "y" + b,
			{Case: true}:  "x" + small + "y" + small,
		}
		if white {
			want[api.Ignore{White: true}] = "xy"
			want[api.Ignore{Space: true}] = "x y"
			want[api.Ignore{Trail: true}] = "x" + b + "y"
		}
		for o, want := range want {
			if s := canon.Canon("x"+b+"y"+b+"\n", o); s != want+"\n" {
				t.Errorf("%+v: with the byte %d: %q, want %q", o, c, s, want+"\n")
			}
		}
	}
}

func TestCanonOfAllShortLines(t *testing.T) {
	for _, o := range samples.Ignores() {
		samples.Lines("aA\t \r", 4, func(line string) {
			if s, want := canon.Canon(line, o), canonByWords(line, o); s != want {
				t.Errorf("%+v: %q: %q, want %q", o, line, s, want)
			}
		})
		samples.Texts("Z\t\n\xe4", 4, func(line string) {
			if s, want := canon.Canon(line, o), canonByWords(line, o); s != want {
				t.Errorf("%+v: %q: %q, want %q", o, line, s, want)
			}
		})
	}
}

func TestCanonHasNoLimit(t *testing.T) {
	n := api.MaxText
	line := strings.Repeat("A \t", n) + "\n"
	for _, c := range []struct {
		o    api.Ignore
		want string
	}{
		{api.Ignore{White: true, Case: true}, strings.Repeat("a", n) + "\n"},
		{api.Ignore{Space: true}, strings.Repeat("A ", n-1) + "A\n"},
		{api.Ignore{Trail: true}, strings.Repeat("A \t", n-1) + "A\n"},
		{api.Ignore{Tabs: true}, strings.Repeat("A       ", n) + "\n"},
	} {
		if s := canon.Canon(line, c.o); s != c.want {
			t.Errorf("%+v: %d bytes, want %d", c.o, len(s), len(c.want))
		}
	}
}

// Promise 3.3.

func TestEqualOfEdges(t *testing.T) {
	for _, c := range []struct {
		a, b string
		o    api.Ignore
		want bool
	}{
		{"", "", none, true},
		{"a\n", "a\n", none, true},
		{"a\n", "b\n", all, false},
		{"a", "a\n", none, false},
		{"a", "a\n", all, false},
		{"", "\n", all, false},
		{" ", "\n", all, false},
		{"", " ", none, false},
		{"", " ", api.Ignore{Blank: true}, false},
		{"", " \t\r", api.Ignore{Trail: true}, true},
		{"a b", "a  b", api.Ignore{Trail: true}, false},
		{"a b", "a \tb ", api.Ignore{Space: true}, true},
		{"a b", "ab", api.Ignore{Space: true}, false},
		{" a", "a", api.Ignore{Space: true}, false},
		{" a", "\t a", api.Ignore{Space: true}, true},
		{" a", "a", api.Ignore{White: true}, true},
		{"a b", "ab", api.Ignore{White: true}, true},
		{"A", "a", api.Ignore{White: true}, false},
		{"A", "a", api.Ignore{Case: true}, true},
		{"Ä", "ä", api.Ignore{Case: true}, false},
		{"[", "{", api.Ignore{Case: true}, false},
		{"@", "`", api.Ignore{Case: true}, false},
		{"a\tb", "a       b", api.Ignore{Tabs: true}, true},
		{"a\tb", "a b", api.Ignore{Tabs: true}, false},
		{"\xff", "\xfe", all, false},
		{"\xff", "\ufffd", all, false},
		{"A  \n", "a\n", api.Ignore{Case: true, Space: true}, true},
		{"B \n", "b\n", api.Ignore{Case: true, Space: true}, true},
	} {
		if e := canon.Equal(c.a, c.b, c.o); e != c.want {
			t.Errorf("%+v: %q and %q: %v", c.o, c.a, c.b, e)
		}
		if e := canon.Equal(c.b, c.a, c.o); e != c.want {
			t.Errorf("%+v: %q and %q: %v", c.o, c.b, c.a, e)
		}
	}
}

func TestBlankOfEdges(t *testing.T) {
	whites := []api.Ignore{{Space: true}, {White: true}, {Trail: true}, all}
	others := []api.Ignore{none, {Blank: true}, {Case: true}, {Tabs: true}}
	for _, c := range []struct {
		line          string
		white, others bool
	}{
		{"", true, true},
		{"\n", true, true},
		{" ", true, false},
		{" \n", true, false},
		{"\t\n", true, false},
		{"\v\n", true, false},
		{"\f\n", true, false},
		{"\r\n", true, false},
		{" \t\v\f\r", true, false},
		{"a", false, false},
		{" a \n", false, false},
		{"\x00\n", false, false},
		{"\xa0", false, false},
		{"\u00a0\n", false, false},
		{"\n\n", false, false},
		{" \n\n", false, false},
	} {
		for _, o := range whites {
			if b := canon.Blank(c.line, o); b != c.white {
				t.Errorf("%+v: blank %q: %v", o, c.line, b)
			}
		}
		for _, o := range others {
			if b := canon.Blank(c.line, o); b != c.others {
				t.Errorf("%+v: blank %q: %v", o, c.line, b)
			}
		}
	}
}

func TestEqualAndBlankOfAllShortLines(t *testing.T) {
	for _, o := range samples.Ignores() {
		samples.Lines("aA\t ", 2, func(a string) {
			form := canonByWords(a, o)
			if b := canon.Blank(a, o); b != (form == "" || form == "\n") {
				t.Errorf("%+v: blank %q: %v", o, a, b)
			}
			samples.Lines("aA\t ", 2, func(b string) {
				if e := canon.Equal(a, b, o); e != (form == canonByWords(b, o)) {
					t.Errorf("%+v: %q and %q: %v", o, a, b, e)
				}
			})
		})
	}
}

// That lines are blank is asked for elsewhere: it changes no answer here.
func TestIgnoringBlankSaysNothing(t *testing.T) {
	for _, o := range samples.Ignores() {
		with, without := o, o
		with.Blank, without.Blank = true, false
		samples.Lines("A\t ", 3, func(line string) {
			if canon.Canon(line, with) != canon.Canon(line, without) {
				t.Errorf("%+v: %q has another form", with, line)
			}
			if canon.Blank(line, with) != canon.Blank(line, without) {
				t.Errorf("%+v: %q is not blank alike", with, line)
			}
			if canon.Equal(line, "a\n", with) != canon.Equal(line, "a\n", without) {
				t.Errorf("%+v: %q is not equal alike", with, line)
			}
		})
	}
}

// Promise 3.4.

func TestCanonOfAFormIsTheForm(t *testing.T) {
	for _, o := range samples.Ignores() {
		samples.Lines("aA\t \r\xff", 4, func(line string) {
			form := canon.Canon(line, o)
			if s := canon.Canon(form, o); s != form {
				t.Errorf("%+v: %q: %q, then %q", o, line, form, s)
			}
			if !canon.Equal(line, form, o) {
				t.Errorf("%+v: %q is not the same as its form %q", o, line, form)
			}
			if err := lines.Check([]string{form}); form != "" && err != api.OK {
				t.Errorf("%+v: the form %q of %q is no line", o, form, line)
			}
		})
	}
}

func TestEqualIsAnEquivalence(t *testing.T) {
	var l []string
	samples.Lines("aA ", 2, func(line string) { l = append(l, line) })
	for _, o := range samples.Ignores() {
		for _, a := range l {
			if !canon.Equal(a, a, o) {
				t.Errorf("%+v: %q is not the same as itself", o, a)
			}
			for _, b := range l {
				same := canon.Equal(a, b, o)
				if same != canon.Equal(b, a, o) {
					t.Errorf("%+v: %q and %q one way alone", o, a, b)
				}
				for _, c := range l {
					if same && canon.Equal(b, c, o) && !canon.Equal(a, c, o) {
						t.Errorf("%+v: %q, %q, %q", o, a, b, c)
					}
				}
			}
		}
	}
}

// isMore tells whether b ignores all that a does.
func isMore(a, b api.Ignore) bool {
	trail, space := b.Trail || b.Space || b.White, b.Space || b.White
	return (!a.Trail || trail) && (!a.Space || space) && (!a.White || b.White) && (!a.Case || b.Case) && (!a.Tabs || b.Tabs)
}

func TestIgnoringMoreKeepsTheSame(t *testing.T) {
	var l []string
	samples.Lines("aA\t ", 3, func(line string) { l = append(l, line, "1234567"+line) })
	choices := samples.Ignores()
	forms := make([][]string, len(choices))
	for i, o := range choices {
		for _, line := range l {
			forms[i] = append(forms[i], canon.Canon(line, o))
		}
	}
	for i, less := range choices {
		for j, more := range choices {
			if !isMore(less, more) {
				continue
			}
			to := map[string]string{}
			for k, form := range forms[i] {
				if was, ok := to[form]; ok && was != forms[j][k] {
					t.Errorf("%q is the same as another line with %+v, and not with %+v", l[k], less, more)
				}
				to[form] = forms[j][k]
			}
		}
	}
}

func FuzzAnyLine(f *testing.F) {
	for i, line := range []string{"", "\n", "a", " A\t b \n", "\t\n", "\xff \r\n", "a\n b"} {
		f.Add(line, i)
	}
	f.Fuzz(func(t *testing.T, line string, n int) {
		o := samples.Ignores()[uint(n)%64]
		form := canon.Canon(line, o)
		if want := canonByWords(line, o); form != want {
			t.Errorf("%+v: %q: %q, want %q", o, line, form, want)
		}
		if s, want := canon.Expand(line), expandByWords(line); s != want {
			t.Errorf("expanded %q: %q, want %q", line, s, want)
		}
		if lines.Check([]string{line}) == api.OK && (canon.Canon(form, o) != form || !canon.Equal(line, form, o)) {
			t.Errorf("%+v: %q is not the same as its form %q", o, line, form)
		}
	})
}

package num_test

import (
	"math"
	"math/big"
	"slices"
	"strings"
	"testing"

	"redline/api"
	"redline/num"
	"redline/samples"
)

// allBytes is a text of all 256 bytes.
func allBytes() string {
	b := make([]byte, 256)
	for i := range b {
		b[i] = byte(i)
	}
	return string(b)
}

// someTexts is texts of all kinds that the quoting must carry.
func someTexts() []string {
	l := []string{"", " ", "\t", "\n", "a", "a b", "\"", "\\", "\"\"", "\\\\", "\\22", "\\\"", "\x1f\x20\x7e\x7f", "\x00\xff", "häß", "\u2028", "\xc3", "\xed\xa0\x80", "a\n\"", allBytes(), strings.Repeat("\x80a", 5000)}
	for _, c := range []byte(allBytes()) {
		l = append(l, string([]byte{c}), string([]byte{'x', c, '0', '0'}))
	}
	return l
}

// Promise 1.1.

func TestTextIsTheDecimalDigits(t *testing.T) {
	l := []int{0, 1, -1, 9, 10, -10, -12, 99, 100, 12345, api.MaxNumber, api.MaxNumber + 1, -api.MaxNumber - 1, math.MaxInt, math.MinInt, math.MinInt + 1}
	for n := -1100; n <= 1100; n++ {
		l = append(l, n)
	}
	for _, n := range l {
		want := big.NewInt(int64(n)).String()
		if s := num.Text(n); s != want {
			t.Errorf("text %q, want %q", s, want)
		}
	}
}

func TestParseOfEdges(t *testing.T) {
	nines := strings.Repeat("9", 10000)
	for _, c := range []struct {
		s    string
		want int
		err  api.Errno
	}{
		{"0", 0, api.OK},
		{"7", 7, api.OK},
		{"10", 10, api.OK},
		{"1000000000", 1000000000, api.OK},
		{"2147483639", 2147483639, api.OK},
		{"2147483640", 2147483640, api.OK},
		{"2147483646", 2147483646, api.OK},
		{"2147483647", api.MaxNumber, api.OK},
		{"2147483648", 0, api.ErrRange},
		{"2147483650", 0, api.ErrRange},
		{"4294967296", 0, api.ErrRange},
		{"4294967297", 0, api.ErrRange},
		{"9223372036854775807", 0, api.ErrRange},
		{"9223372036854775808", 0, api.ErrRange},
		{"18446744073709551616", 0, api.ErrRange},
		{"18446744073709551617", 0, api.ErrRange},
		{"99999999999999999999", 0, api.ErrRange},
		{nines, 0, api.ErrRange},
		{"1" + strings.Repeat("0", 10000), 0, api.ErrRange},
		{"", 0, api.ErrText},
		{"00", 0, api.ErrText},
		{"01", 0, api.ErrText},
		{"012", 0, api.ErrText},
		{"02147483648", 0, api.ErrText},
		{"-", 0, api.ErrText},
		{"+", 0, api.ErrText},
		{"-0", 0, api.ErrText},
		{"-1", 0, api.ErrText},
		{"+1", 0, api.ErrText},
		{"1a", 0, api.ErrText},
		{"a1", 0, api.ErrText},
		{"1_0", 0, api.ErrText},
		{"0x1", 0, api.ErrText},
		{"1.0", 0, api.ErrText},
		{"1e3", 0, api.ErrText},
		{" 1", 0, api.ErrText},
		{"1 ", 0, api.ErrText},
		{"1\n", 0, api.ErrText},
		{"1\x00", 0, api.ErrText},
		{"/", 0, api.ErrText},
		{":", 0, api.ErrText},
		{"\xff", 0, api.ErrText},
		{"1\xb2", 0, api.ErrText},
		{"\u0661", 0, api.ErrText},
		{"\uff11", 0, api.ErrText},
		{nines + "a", 0, api.ErrText},
		{"0" + nines, 0, api.ErrText},
		{"2147483648-", 0, api.ErrText},
	} {
		if n, err := num.Parse(c.s); n != c.want || err != c.err {
			t.Errorf("parse of %.30q: %d, error %d; want %d, error %d", c.s, n, err, c.want, c.err)
		}
	}
}

func TestParseKnowsJustTheTextsOfNumbers(t *testing.T) {
	known := map[string]int{}
	for n := range 100000 {
		known[big.NewInt(int64(n)).String()] = n
	}
	samples.Texts("0129-+a ", 5, func(s string) {
		want, ok := known[s]
		n, err := num.Parse(s)
		if ok && (n != want || err != api.OK) || !ok && (n != 0 || err != api.ErrText) {
			t.Errorf("parse of %q: %d, error %d", s, n, err)
		}
	})
}

// Promise 1.2.

func TestQuoteOfEachByte(t *testing.T) {
	const digits = "0123456789abcdef"
	for i := range 256 {
		c := string([]byte{byte(i)})
		want := "\"\\" + digits[i/16:i/16+1] + digits[i%16:i%16+1] + "\""
		if i >= ' ' && i <= '~' && c != "\"" && c != "\\" {
			want = "\"" + c + "\""
		}
		if s := num.Quote(c); s != want {
			t.Errorf("quoted byte %d: %s, want %s", i, s, want)
		}
	}
}

func TestQuote(t *testing.T) {
	for _, c := range []struct{ s, want string }{
		{"", `""`},
		{"a b", `"a b"`},
		{"a\n\"", `"a\0a\22"`},
		{"\\22", `"\5c22"`},
		{"\x1f \x7e\x7f", `"\1f ~\7f"`},
		{"ä", `"\c3\a4"`},
		{"\xff\x00", `"\ff\00"`},
	} {
		if s := num.Quote(c.s); s != c.want {
			t.Errorf("quoted %q: %s, want %s", c.s, s, c.want)
		}
	}
}

func TestUnquote(t *testing.T) {
	for _, c := range []struct{ s, text, behind string }{
		{`""`, "", ""},
		{`"""`, "", `"`},
		{`""""`, "", `""`},
		{`"a\0a"x`, "a\n", "x"},
		{`"a"b"`, "a", `b"`},
		{`"\22"\22`, "\"", `\22`},
		{`"\5c22"`, "\\22", ""},
		{`"\00\1f ~\7f\ff"` + "\x00\xff\n", "\x00\x1f ~\x7f\xff", "\x00\xff\n"},
		{`"a" "b"`, "a", ` "b"`},
	} {
		text, behind, err := num.Unquote(c.s)
		if text != c.text || behind != c.behind || err != api.OK {
			t.Errorf("unquote of %q: %q, %q, error %d", c.s, text, behind, err)
		}
	}
}

func TestUnquoteOfWhatIsNotQuoted(t *testing.T) {
	for _, s := range []string{
		"", "a", ` "a"`, `'a'`, `a"b"`, `\22`,
		`"`, `"ab`, `"ab\22`, `"\22`, `"ab\`, `"ab\2`, `"\`, `"\2"`, `"\"`, `"\\"`, `"\""`, `"\"a"`,
		`"\61"`, `"\20"`, `"\7e"`, `"\21"`, `"\23"`, `"\5b"`, `"\5d"`, `"a\61`,
		`"\0A"`, `"\FF"`, `"\fF"`, `"\5C"`, `"\0g"`, `"\g0"`, `"\0 "`, `"\ 0"`, `"\x0a"`, `"\n"`, `"\-1"`,
		"\"a\n\"", "\"\t\"", "\"\x00\"", "\"\x1f\"", "\"\x7f\"", "\"\x80\"", "\"\xff\"", "\"ä\"",
		"\"\\0\n\"", "\"\\\xff0\"",
	} {
		text, behind, err := num.Unquote(s)
		if text != "" || behind != "" || err != api.ErrText {
			t.Errorf("unquote of %q: %q, %q, error %d", s, text, behind, err)
		}
	}
}

func TestUnquoteOfEachByteByDigits(t *testing.T) {
	const digits = "0123456789abcdefABCDEF"
	for i := range len(digits) {
		for j := range len(digits) {
			s := "\"\\" + digits[i:i+1] + digits[j:j+1] + "\"z"
			want := api.ErrText
			if i < 16 && j < 16 && len(num.Quote(string([]byte{byte(i<<4 | j)}))) == 5 {
				want = api.OK
			}
			text, behind, err := num.Unquote(s)
			if err != want || want == api.OK && (text != string([]byte{byte(i<<4 | j)}) || behind != "z") {
				t.Errorf("unquote of %s: %q, %q, error %d, want error %d", s, text, behind, err, want)
			}
		}
	}
}

// TestUnquoteKnowsJustWhatQuoteWrites holds Unquote against all short texts that Quote writes: of each front of s that is one of them.
func TestUnquoteKnowsJustWhatQuoteWrites(t *testing.T) {
	const alphabet = "\"\\02a\x02 A"
	written := map[string]string{}
	samples.Texts("\"\\02a\x02\x00\x0a\x20\x22\xa0\xa2\xaa A", 4, func(s string) { written[num.Quote(s)] = s })
	samples.Texts(alphabet, 6, func(s string) {
		text, behind, want := "", "", api.ErrText
		for i := range len(s) + 1 {
			if w, ok := written[s[:i]]; ok {
				text, behind, want = w, s[i:], api.OK
				break
			}
		}
		gotText, gotBehind, err := num.Unquote(s)
		if gotText != text || gotBehind != behind || err != want {
			t.Errorf("unquote of %q: %q, %q, error %d; want %q, %q, error %d", s, gotText, gotBehind, err, text, behind, want)
		}
	})
}

// Promise 1.3.

func TestWords(t *testing.T) {
	for _, c := range []struct {
		s    string
		want []string
	}{
		{"", nil},
		{" ", nil},
		{"\t", nil},
		{"\t  \t ", nil},
		{"a", []string{"a"}},
		{" \ta\t b \t", []string{"a", "b"}},
		{`diff "a b" -u c`, []string{"diff", "a b", "-u", "c"}},
		{`""`, []string{""}},
		{` "" "" `, []string{"", ""}},
		{"\"a\"\t\"\\09\"", []string{"a", "\t"}},
		{`a"b" "c"`, []string{`a"b"`, "c"}},
		{`a" b`, []string{`a"`, "b"}},
		{`\22 \`, []string{`\22`, `\`}},
		{"a\nb \n \x00\xff", []string{"a\nb", "\n", "\x00\xff"}},
		{"\u00a0 \u2003x", []string{"\u00a0", "\u2003x"}},
		{`" a "`, []string{" a "}},
		{`"\22\5c"  '`, []string{"\"\\", "'"}},
	} {
		l, err := num.Words(c.s)
		if !slices.Equal(l, c.want) || err != api.OK {
			t.Errorf("words of %q: %q, error %d; want %q", c.s, l, err, c.want)
		}
	}
}

func TestWordsThatBeginQuotedAndAreNot(t *testing.T) {
	for _, s := range []string{
		`"`, `a "`, `"a`, `"a b`, `a "b"c`, `"b"c d`, `""a`, `"""`, `""""`, `"a""b"`, `"a"\09`, "\"a\"\n", "\"a\tb\"", `"\61"`, `"\0A"`, "\"\xff\"", "\"a\"\u00a0", `a b "c d`,
	} {
		if l, err := num.Words(s); len(l) != 0 || err != api.ErrText {
			t.Errorf("words of %q: %q, error %d, want error 3", s, l, err)
		}
	}
}

func TestWordsThatAreTooMany(t *testing.T) {
	most := strings.Repeat("a ", api.MaxWords-1)
	for _, c := range []struct {
		s   string
		err api.Errno
	}{
		{most + "a", api.OK},
		{" \t" + most + "a \t ", api.OK},
		{most + `""`, api.OK},
		{most + `"a b"`, api.OK},
		{strings.Repeat(`"" `, api.MaxWords), api.OK},
		{most + "a a", api.ErrLong},
		{most + `a ""`, api.ErrLong},
		{strings.Repeat(`"" `, api.MaxWords+1), api.ErrLong},
		{most + `a a "`, api.ErrLong},
		{most + `a "a" "b"c`, api.ErrLong},
		{strings.Repeat("a\t", 100000), api.ErrLong},
		{most + `a "`, api.ErrText},
		{most + `a "a"b`, api.ErrText},
		{most + `a "\61" a`, api.ErrText},
		{most + `"a a a`, api.ErrText},
		{`"x ` + most + "a a a", api.ErrText},
		{most + `"b"c a a`, api.ErrText},
	} {
		l, err := num.Words(c.s)
		want := 0
		if c.err == api.OK {
			want = api.MaxWords
		}
		if len(l) != want || err != c.err {
			t.Errorf("words of %.90q: %d of them, error %d; want %d, error %d", c.s, len(l), err, want, c.err)
		}
	}
}

// TestWordsAreThoseOfTheRule goes through short texts and takes them apart anew, letter by letter.
func TestWordsAreThoseOfTheRule(t *testing.T) {
	samples.Texts("x\" \t\\2", 7, func(s string) {
		want, ok := wordsByTheRule(s)
		l, err := num.Words(s)
		if ok && (err != api.OK || !slices.Equal(l, want)) || !ok && (err != api.ErrText || len(l) != 0) {
			t.Errorf("words of %q: %q, error %d; want %q, %t", s, l, err, want, ok)
		}
	})
}

// wordsByTheRule is the words of a short text of the letters x, ", blank, tab, \ and 2; of these \22 alone is something that Quote writes by digits.
func wordsByTheRule(s string) ([]string, bool) {
	var l []string
	word, state := "", ' '
	for i := 0; i < len(s); i++ {
		c, blank := s[i], s[i] == ' ' || s[i] == '\t'
		switch {
		case state == ' ' && c == '"':
			word, state = "", '"'
		case state == ' ' && !blank:
			word, state = s[i:i+1], 'w'
		case state == 'w' && !blank:
			word += s[i : i+1]
		case state == '"' && c == '"':
			state = 'e'
		case state == '"' && strings.HasPrefix(s[i:], `\22`):
			word += `"`
			i += 2
		case state == '"' && (c == '\\' || c == '\t'), state == 'e' && !blank:
			return nil, false
		case state == '"':
			word += s[i : i+1]
		case state != ' ':
			l, state = append(l, word), ' '
		}
	}
	if state == 'w' || state == 'e' {
		l = append(l, word)
	}
	return l, state != '"'
}

// Promise 1.4.

func TestParseOfText(t *testing.T) {
	check := func(n int) {
		if m, err := num.Parse(num.Text(n)); m != n || err != api.OK {
			t.Errorf("parse of the text of %d: %d, error %d", n, m, err)
		}
	}
	for n := range 100000 {
		check(n)
		check(api.MaxNumber - n)
	}
	for n := 1; n <= api.MaxNumber/2; n *= 2 {
		check(n)
	}
	for n := 1; n <= api.MaxNumber/7; n = n*7 + 3 {
		check(n)
	}
}

func TestUnquoteOfQuote(t *testing.T) {
	for _, s := range someTexts() {
		for _, tail := range []string{"", "x", `"`, ` "`, "\\22\"", "\x00\xff", num.Quote(s)} {
			text, behind, err := num.Unquote(num.Quote(s) + tail)
			if text != s || behind != tail || err != api.OK {
				t.Errorf("unquote of the quoted %.30q and %.30q: %.30q, %.30q, error %d", s, tail, text, behind, err)
			}
		}
	}
}

func TestWordsOfQuotedTexts(t *testing.T) {
	for texts := range slices.Chunk(someTexts(), api.MaxWords) {
		quoted := make([]string, len(texts))
		for i, s := range texts {
			quoted[i] = num.Quote(s)
		}
		for _, gap := range []string{" ", "\t", "  \t "} {
			l, err := num.Words(strings.Join(quoted, gap))
			if !slices.Equal(l, texts) || err != api.OK {
				t.Errorf("words of quoted texts: %d of %d, error %d", len(l), len(texts), err)
			}
		}
	}
}

// FuzzAnyText asks every call for what holds of any bytes, limits or not (R1, R2).
func FuzzAnyText(f *testing.F) {
	for _, s := range []string{"", "0", "2147483648", `"a\0a"x`, `a "b" c`, "\xff\""} {
		f.Add(s)
	}
	f.Fuzz(func(t *testing.T, s string) {
		if n, err := num.Parse(s); err == api.OK && num.Text(n) != s || err != api.OK && n != 0 {
			t.Errorf("parse of %q: %d, error %d", s, n, err)
		}
		text, behind, err := num.Unquote(s)
		if err == api.OK && num.Quote(text)+behind != s || err != api.OK && text+behind != "" {
			t.Errorf("unquote of %q: %q, %q, error %d", s, text, behind, err)
		}
		if l, err := num.Words(s); len(l) > api.MaxWords || err != api.OK && len(l) != 0 {
			t.Errorf("words of %q: %q, error %d", s, l, err)
		}
	})
}

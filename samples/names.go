package samples

import (
	"strconv"
	"strings"

	"redline/api"
)

// FileName is a name, and how it stands in a patch.
type FileName struct{ Name, Text string }

// FileNames are names of all kinds, those of each byte among them.
func FileNames() []FileName {
	long := strings.Repeat("x", api.MaxName-1)
	l := []FileName{
		{"", "/dev/null"},
		{"/dev/null", `"/dev/null"`},
		{"a", "a"},
		{"dir/file.go", "dir/file.go"},
		{"/dev/nul", "/dev/nul"},
		{"/dev/nulll", "/dev/nulll"},
		{"dev/null", "dev/null"},
		{"/dev/null ", `"/dev/null "`},
		{"/DEV/NULL", "/DEV/NULL"},
		{"//dev/null", "//dev/null"},
		{"a b", `"a b"`},
		{" ", `" "`},
		{" a", `" a"`},
		{"a ", `"a "`},
		{`"`, `"\22"`},
		{`a"b`, `"a\22b"`},
		{`"a"`, `"\22a\22"`},
		{`"/dev/null"`, `"\22/dev/null\22"`},
		{`\`, `\`},
		{`a\b`, `a\b`},
		{`a\ b`, `"a\5c b"`},
		{`\20`, `\20`},
		{"a\tb", `"a\09b"`},
		{"a\n", `"a\0a"`},
		{"\x00", `"\00"`},
		{"\x1f", `"\1f"`},
		{"!", "!"},
		{"#", "#"},
		{"~", "~"},
		{"\x7f", `"\7f"`},
		{"\x80", `"\80"`},
		{"\xff\xfe", `"\ff\fe"`},
		{"ä", `"\c3\a4"`},
		{"\ufffd", `"\ef\bf\bd"`},
		{"***", "***"},
		{"---", "---"},
		{"+++", "+++"},
		{"@@", "@@"},
		{"***************", "***************"},
		{"1", "1"},
		{"1,3 ****", `"1,3 ****"`},
		{"1 ----", `"1 ----"`},
		{long + "x", long + "x"},
		{long + " ", `"` + long + ` "`},
		{strings.Repeat("\xff", api.MaxName), `"` + strings.Repeat(`\ff`, api.MaxName) + `"`},
		{strings.Repeat(`"`, api.MaxName), `"` + strings.Repeat(`\22`, api.MaxName) + `"`},
		{strings.Repeat(" ", api.MaxName), `"` + strings.Repeat(" ", api.MaxName) + `"`},
	}
	for c := range 256 {
		for _, name := range []string{string([]byte{byte(c)}), "x" + string([]byte{byte(c)})} {
			l = append(l, FileName{name, NameText(name)})
		}
	}
	return l
}

// WrongNames are what stands for no name in a patch, or for one that is too long. None has a line feed.
func WrongNames() []string {
	long := strings.Repeat("x", api.MaxName)
	return []string{
		"", " ", "  ", " a", "a ", "a b", "\t", "a\tb", "a\t2026-11-18", "a\r", "\x00", "\x1f", "\x7f", "\x80", "\xff", "ä", "a\u00a0b",
		`"`, `""`, `"a"`, `"a\b"`, `"!~"`, `"/dev/nul"`, `"/dev/null`, `"/dev/null" `, ` "/dev/null"`, `"\2fdev/null"`, "/dev/null ", " /dev/null", "/dev/null\t", "/dev/null x",
		`"a b`, `a b"`, `a "b"`, `"a b" `, `"a b"x`, `"a b""`, `"a b" "c d"`, ` "a b"`, `""a b"`, `'a b'`,
		`"a\20b c"`, `"\61 "`, `"a\5Cb c"`, `"\FF"`, `"\0A"`, `"\zz"`, `"\2"`, `"\"`, `"\22`, `"a \`, `"a\ b"`, `"a\\b c"`, `"\n"`, `"\x20"`, `"\g0"`, `"\ "`,
		`a"b`, `a"`, `a"b"`, `"a"b"`, "\"a\tb\"", "\"\x00\"", "\"\xff\"", "\"ä\"",
		long + "x", strings.Repeat("x", 1000), `"` + long + ` "`, `"` + long[1:] + `\ff\ff"`, `"` + strings.Repeat(`\ff`, api.MaxName+1) + `"`, `"` + strings.Repeat(" ", api.MaxName+1) + `"`, `"` + long + `"`,
		"1,3 ****", "1 ****", "1 ----", "**** ****",
	}
}

// NameText is a name as it stands in a patch, by the document's words alone.
func NameText(name string) string {
	if name == "" {
		return "/dev/null"
	}
	plain := name != "/dev/null"
	var quoted strings.Builder
	for _, c := range []byte(name) {
		plain = plain && 33 <= c && c <= 126 && c != '"'
		if c < 32 || c > 126 || c == '"' || c == '\\' {
			const digits = "0123456789abcdef"
			quoted.WriteString("\\" + digits[c/16:][:1] + digits[c%16:][:1])
		} else {
			quoted.WriteByte(c)
		}
	}
	if plain {
		return name
	}
	return `"` + quoted.String() + `"`
}

// NameFrom is the name that stands as s in a patch, and whether there is one that is not too long.
func NameFrom(s string) (string, bool) {
	for _, name := range []string{"", s, unquoted(s)} {
		if len(name) <= api.MaxName && NameText(name) == s {
			return name, true
		}
	}
	return "", false
}

// unquoted is a text that stands between two quotation marks, as well as it can be read.
func unquoted(s string) string {
	var name []byte
	for s = strings.Trim(s, `"`); s != ""; s = s[1:] {
		c := s[0]
		if n, err := strconv.ParseUint(s[1:min(len(s), 3)], 16, 8); c == '\\' && err == nil {
			c, s = byte(n), s[min(len(s)-1, 2):]
		}
		name = append(name, c)
	}
	return string(name)
}

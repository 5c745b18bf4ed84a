// Package num is layer 1: numbers and quoted texts. See shared/doc/01-num.md.
package num

import (
	"strconv"
	"strings"

	"redline/api"
)

const (
	hexDigits = "0123456789abcdef"
	blanks    = " \t"
)

// Text is a number in decimal digits.
func Text(n int) string { return strconv.Itoa(n) }

// Parse is the number that has just this text.
func Parse(s string) (int, api.Errno) {
	if !isNumber(s) {
		return 0, api.ErrText
	}
	n := 0
	for _, r := range s {
		d := int(r - '0')
		// Asked ahead of the sum, which so stays within its type, however many digits there are.
		if n > (api.MaxNumber-d)/10 {
			return 0, api.ErrRange
		}
		n = n*10 + d
	}
	return n, api.OK
}

// isNumber tells whether s is the text of a number from 0 on, however great.
func isNumber(s string) bool {
	if s == "" || s[0] == '0' && len(s) > 1 {
		return false
	}
	for _, r := range s {
		if r < '0' || r > '9' {
			return false
		}
	}
	return true
}

// Quote is a text between quotation marks.
func Quote(s string) string {
	var b strings.Builder
	b.WriteByte('"')
	// By bytes, not by letters: each byte of a letter beyond 126 has its own two digits.
	for _, c := range []byte(s) {
		if isPlain(c) {
			b.WriteByte(c)
			continue
		}
		b.WriteByte('\\')
		b.WriteByte(hexDigits[c>>4])
		b.WriteByte(hexDigits[c&15])
	}
	b.WriteByte('"')
	return b.String()
}

// isPlain tells whether a byte stands for itself between quotation marks.
func isPlain(c byte) bool {
	return c >= 32 && c <= 126 && c != '"' && c != '\\'
}

// Unquote is the text that stands quoted at the front, and what is behind it.
func Unquote(s string) (string, string, api.Errno) {
	if s == "" || s[0] != '"' {
		return "", "", api.ErrText
	}
	var b strings.Builder
	rest := s[1:]
	for rest != "" && rest[0] != '"' {
		c, n := quotedByte(rest)
		if n == 0 {
			return "", "", api.ErrText
		}
		b.WriteByte(c)
		rest = rest[n:]
	}
	if rest == "" {
		return "", "", api.ErrText
	}
	return b.String(), rest[1:], api.OK
}

// quotedByte is the byte that is quoted at the front of s, which isn't empty, and how long its quoted form is: 0, if there is none.
func quotedByte(s string) (byte, int) {
	if isPlain(s[0]) {
		return s[0], 1
	}
	if s[0] != '\\' || len(s) < 3 {
		return 0, 0
	}
	high, low := strings.IndexByte(hexDigits, s[1]), strings.IndexByte(hexDigits, s[2])
	if high < 0 || low < 0 {
		return 0, 0
	}
	c := byte(high<<4 | low)
	// Each text has one quoted form alone: digits for a byte that stands for itself are none.
	if isPlain(c) {
		return 0, 0
	}
	return c, 3
}

// Words is the words of a line.
func Words(s string) ([]string, api.Errno) {
	var words []string
	rest := strings.TrimLeft(s, blanks)
	for rest != "" {
		word, behind, err := firstWord(rest)
		if err != api.OK {
			return nil, err
		}
		// Asked behind firstWord: of one word, what is wrong with its text is told ahead of its being too many.
		if len(words) == api.MaxWords {
			return nil, api.ErrLong
		}
		words = append(words, word)
		rest = strings.TrimLeft(behind, blanks)
	}
	return words, api.OK
}

// firstWord is the word at the front of s, which begins with one, and what is behind it.
func firstWord(s string) (string, string, api.Errno) {
	if s[0] == '"' {
		return quotedWord(s)
	}
	end := strings.IndexAny(s, blanks)
	if end < 0 {
		end = len(s)
	}
	return s[:end], s[end:], api.OK
}

// quotedWord is the quoted word at the front of s, and what is behind it: that must begin with a blank or a tab, if with anything.
func quotedWord(s string) (string, string, api.Errno) {
	word, behind, err := Unquote(s)
	if err != api.OK {
		return "", "", err
	}
	if behind != "" && strings.IndexByte(blanks, behind[0]) < 0 {
		return "", "", api.ErrText
	}
	return word, behind, api.OK
}

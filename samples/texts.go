package samples

import (
	"slices"
	"strconv"
	"strings"
)

// Unfed is lines of which the last one, if there is one, lacks its line feed.
func Unfed(l []string) []string {
	l = slices.Clone(l)
	if n := len(l); n > 0 {
		l[n-1] = strings.TrimSuffix(l[n-1], "\n")
	}
	return l
}

// Signs is Script's signs out of any bytes, one a byte.
func Signs(s string) string {
	signs := []byte(s)
	for i, c := range signs {
		signs[i] = "===-+"[c%5]
	}
	return string(signs)
}

// Right is n right lines: the first ones of a text, and behind them others, where it has too few.
func Right(text string, n int) []string {
	var l []string
	for line := range strings.Lines(text) {
		if len(l) == n {
			break
		}
		if len(l) < n-1 && !strings.HasSuffix(line, "\n") {
			line += "\n"
		}
		l = append(l, line)
	}
	return slices.Concat(l, Named("more", n-len(l)))
}

// Before is the text of which Script's signs make b: what is kept is the same line in both, and what is taken out has names.
func Before(signs string, b []string) []string {
	var a []string
	next := 0
	for _, sign := range []byte(signs) {
		switch sign {
		case '-':
			a = append(a, "gone"+strconv.Itoa(len(a))+"\n")
		case '=':
			a = append(a, b[next])
			next++
		default:
			next++
		}
	}
	return a
}

// Nearly hands over texts that are nearly that text: of each byte those without it, with any byte in its place, and with any ahead of it; those with two lines exchanged, with a line left out, and with a line once more, at any place.
func Nearly(text string, do func(text string)) {
	for i := range len(text) {
		do(text[:i] + text[i+1:])
		for c := range 256 {
			b := string([]byte{byte(c)})
			do(text[:i] + b + text[i+1:])
			do(text[:i] + b + text[i:])
		}
	}
	l := strings.SplitAfter(text, "\n")
	for i := range l {
		for j := range l {
			other := slices.Clone(l)
			other[i], other[j] = other[j], other[i]
			do(strings.Join(other, ""))
			do(strings.Join(slices.Insert(slices.Clone(l), i, l[j]), ""))
		}
		do(strings.Join(slices.Delete(slices.Clone(l), i, i+1), ""))
	}
}

// Package samples makes what the tests of all layers hold the calls against: every short text, line and list, every choice of what is ignored, lines that count as the same, edit scripts, hunks, names as they stand in patches, texts that are nearly another one, pairs of texts for all engines, and the scripts that these find; and it tells whether lists were left alone, and are apart, and whether an error is a fault, and one of its own. The layers themselves do not call it.
package samples

import (
	"math"
	"strings"

	"redline/api"
)

// Texts hands over every text of at most length bytes out of those of alphabet, each once.
func Texts(alphabet string, length int, do func(s string)) {
	Lists([]byte(alphabet), length, func(l []byte) { do(string(l)) })
}

// Lines hands over what Texts does, each text without and with a line feed at its end.
func Lines(alphabet string, length int, do func(line string)) {
	Texts(alphabet, length, func(s string) {
		do(s)
		do(s + "\n")
	})
}

// Lists hands over every list of at most length members out of members, each once, and each as new memory.
func Lists[T any](members []T, length int, do func(l []T)) {
	do(nil)
	if length <= 0 {
		return
	}
	for _, m := range members {
		Lists(members, length-1, func(l []T) { do(append([]T{m}, l...)) })
	}
}

// Ignores is every choice of what is ignored, each once; the first one ignores nothing, the last one all.
func Ignores() []api.Ignore {
	var l []api.Ignore
	for n := range 64 {
		l = append(l, api.Ignore{Space: n&1 != 0, White: n&2 != 0, Blank: n&4 != 0, Case: n&8 != 0, Tabs: n&16 != 0, Trail: n&32 != 0})
	}
	return l
}

// Alike is two lines that are not the same bytes, and what makes them count as the same.
type Alike struct {
	A, B    string
	Ignored api.Ignore
}

// Alikes has some for each kind of difference that is ignored in lines, and for several at once.
func Alikes() []Alike {
	return []Alike{
		{"a b\n", "a \t b\n", api.Ignore{Space: true}},
		{"a\n", "a  \n", api.Ignore{Space: true}},
		{"\n", " \t\r\n", api.Ignore{Space: true}},
		{"ab\n", " a\tb \n", api.Ignore{White: true}},
		{"", " \v\f", api.Ignore{White: true}},
		{"a\n", "A\n", api.Ignore{Case: true}},
		{"xYz", "XyZ", api.Ignore{Case: true}},
		{"a\tb\n", "a       b\n", api.Ignore{Tabs: true}},
		{"\t", "        ", api.Ignore{Tabs: true}},
		{"a\n", "a\r\n", api.Ignore{Trail: true}},
		{"", "\t", api.Ignore{Trail: true}},
		{"A  b\n", "a b \n", api.Ignore{Case: true, Space: true}},
		{"\tA\n", "        a \n", api.Ignore{Case: true, Tabs: true, Trail: true}},
		{"A B", "\tab", api.Ignore{Space: true, White: true, Blank: true, Case: true, Tabs: true, Trail: true}},
	}
}

// Rows is changes as rows of numbers: A, AN, B and BN of each.
type Rows [][4]int

// Changes is the rows as changes.
func (r Rows) Changes() []api.Change {
	l := make([]api.Change, len(r))
	for i, row := range r {
		l[i] = api.Change{A: row[0], AN: row[1], B: row[2], BN: row[3]}
	}
	return l
}

// Script is an edit script out of signs, one a line in order: = is kept, - taken out, + put in.
func Script(signs string) []api.Change {
	var l []api.Change
	a, b, open := 0, 0, false
	for _, sign := range []byte(signs) {
		if sign == '=' {
			a, b, open = a+1, b+1, false
			continue
		}
		if !open {
			l, open = append(l, api.Change{A: a, B: b}), true
		}
		c := &l[len(l)-1]
		if sign == '-' {
			a, c.AN = a+1, c.AN+1
		} else {
			b, c.BN = b+1, c.BN+1
		}
	}
	return l
}

// Pair is as many lines as such signs say of both texts, no two of them alike, not even those that are kept.
func Pair(signs string) (a, b []string) {
	n, m := len(signs)-strings.Count(signs, "+"), len(signs)-strings.Count(signs, "-")
	return Named("a", n), Named("b", m)
}

// WrongScripts are changes that are no right script between four lines and four.
func WrongScripts() [][]api.Change {
	return [][]api.Change{
		Rows{{0, 1, 0, 0}}.Changes(),
		Rows{{0, 0, 0, 0}}.Changes(),
		Rows{{1, 1, 2, 1}}.Changes(),
		Rows{{-1, 1, -1, 1}}.Changes(),
		Rows{{0, -1, 0, -1}}.Changes(),
		Rows{{4, 1, 4, 1}}.Changes(),
		Rows{{0, 5, 0, 5}}.Changes(),
		Rows{{0, 1, 0, 1}, {1, 1, 1, 1}}.Changes(),
		Rows{{2, 1, 2, 1}, {0, 1, 0, 1}}.Changes(),
		Rows{{1, 1, 1, 1}, {1, 1, 1, 1}}.Changes(),
		Rows{{api.MaxNumber + 1, 1, api.MaxNumber + 1, 1}}.Changes(),
		Rows{{math.MaxInt, 1, math.MaxInt, 1}}.Changes(),
		Rows{{0, math.MaxInt, 0, math.MaxInt}}.Changes(),
		Rows{{math.MinInt, 1, math.MinInt, 1}}.Changes(),
		Rows{{0, 1, 0, 1}, {math.MaxInt, math.MaxInt, math.MaxInt, math.MaxInt}}.Changes(),
	}
}

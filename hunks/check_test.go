package hunks_test

import (
	"math"
	"slices"
	"strings"
	"testing"

	"redline/api"
	"redline/hunks"
	"redline/samples"
)

// checkCheck holds Check against what it must answer.
func checkCheck(t *testing.T, h api.Hunk, want api.Errno) {
	t.Helper()
	if err := hunks.Check(h); err != want {
		t.Errorf("%s: %d, want %d", told(h), err, want)
	}
}

// checkOrder holds Order against what it must answer, and Changes where that is an error.
func checkOrder(t *testing.T, l []api.Hunk, want api.Errno) {
	t.Helper()
	if err := hunks.Order(l); err != want {
		t.Errorf("order of %s: %d, want %d", told(l), err, want)
	}
	if script, err := hunks.Changes(l); err != want || err != api.OK && len(script) != 0 {
		t.Errorf("changes of %s: %s, %d, want %d", told(l), told(script), err, want)
	}
}

// signed is how many of a hunk's lines have one of some signs.
func signed(h api.Hunk, signs string) int {
	count := 0
	for _, m := range h.Lines {
		if strings.IndexByte(signs, m.Sign) >= 0 {
			count++
		}
	}
	return count
}

// numbersWrong tells whether a hunk's numbers are not where they may be.
func numbersWrong(h api.Hunk) bool {
	for _, n := range []int{h.A, h.AN, h.B, h.BN} {
		if n < 0 || n > 2147483647 {
			return true
		}
	}
	return h.A == 0 && h.AN > 0 || h.B == 0 && h.BN > 0
}

// lineWrong tells whether a hunk's line at a place is not well formed there.
func lineWrong(h api.Hunk, at int) bool {
	sign, text := h.Lines[at].Sign, h.Lines[at].Text
	if sign != ' ' && sign != '-' && sign != '+' || text == "" {
		return true
	}
	if strings.Contains(text[:len(text)-1], "\n") {
		return true
	}
	behind := api.Hunk{Lines: h.Lines[at+1:]}
	isLast := (sign == '+' || signed(behind, " -") == 0) && (sign == '-' || signed(behind, " +") == 0)
	return text[len(text)-1] != '\n' && !isLast
}

// wrongByWords is what is wrong with a hunk, by the chapter's words.
func wrongByWords(h api.Hunk) api.Errno {
	if numbersWrong(h) {
		return api.ErrRange
	}
	for i := range h.Lines {
		if lineWrong(h, i) {
			return api.ErrField
		}
	}
	if signed(h, " -") != h.AN || signed(h, " +") != h.BN {
		return api.ErrCount
	}
	if signed(h, "-+") == 0 {
		return api.ErrScript
	}
	return api.OK
}

// Promise 11.3: Check.

// hunkCase is a hunk, and what is wrong with it.
type hunkCase struct {
	name string
	h    api.Hunk
	want api.Errno
}

// numberCases are the edges of a hunk's numbers, each of which is said of A, AN and B, BN alike.
func numberCases() []hunkCase {
	const top, most, least = api.MaxNumber, math.MaxInt, math.MinInt
	var l []hunkCase
	add := func(name string, at, count int, want api.Errno) {
		l = append(l,
			hunkCase{name + ", old", samples.Hunk([4]int{at, count, 1, 1}, "+x\n"), want},
			hunkCase{name + ", new", samples.Hunk([4]int{1, 1, at, count}, "-x\n"), want},
			hunkCase{name + ", both", samples.Hunk([4]int{at, count, at, count}), want},
		)
	}
	for _, n := range []int{-1, -2, math.MinInt32, least, least + 1, top + 1, 1 << 32, 1<<32 + 1, most - 1, most} {
		add("a place that is none", n, 0, api.ErrRange)
		add("a place that is none, with lines", n, 1, api.ErrRange)
		add("a count that is none", 1, n, api.ErrRange)
		add("a count that is none, at 0", 0, n, api.ErrRange)
		add("both that are none", n, n, api.ErrRange)
	}
	add("lines ahead of the first one", 0, 1, api.ErrRange)
	add("many lines ahead of the first one", 0, top, api.ErrRange)
	return l
}

func TestNumbersOutOfRange(t *testing.T) {
	for _, c := range numberCases() {
		t.Run(c.name, func(t *testing.T) {
			checkCheck(t, c.h, c.want)
			// The same beside all else that may be wrong.
			for _, texts := range [][]string{nil, {" a\n"}, {"-a\n"}, {"xa\n"}, {"-"}, {"-a", "-b"}} {
				h := c.h
				h.Lines = samples.Marks(texts...)
				checkCheck(t, h, c.want)
			}
		})
	}
}

// rightHunks are hunks with nothing wrong.
func rightHunks() []hunkCase {
	const top = api.MaxNumber
	return []hunkCase{
		{"one goes", samples.Hunk([4]int{1, 1, 0, 0}, "-a\n"), api.OK},
		{"one comes", samples.Hunk([4]int{0, 0, 1, 1}, "+a\n"), api.OK},
		{"one goes and one comes", samples.Hunk([4]int{1, 1, 1, 1}, "-a\n", "+b\n"), api.OK},
		{"one comes and one goes", samples.Hunk([4]int{1, 1, 1, 1}, "+b\n", "-a\n"), api.OK},
		{"in turn", samples.Hunk([4]int{7, 2, 9, 3}, "+b\n", "-a\n", "+c\n", "-d\n", "+e\n"), api.OK},
		{"what is kept around", samples.Hunk([4]int{1, 3, 1, 2}, " a\n", "-b\n", " c\n"), api.OK},
		{"what is kept between", samples.Hunk([4]int{1, 2, 1, 2}, "-b\n", " c\n", "+d\n"), api.OK},
		{"an empty line", samples.Hunk([4]int{1, 1, 1, 1}, "-\n", "+\n"), api.OK},
		{"the greatest places", samples.Hunk([4]int{top, 1, top, 0}, "-a\n"), api.OK},
		{"the greatest places, with more lines", samples.Hunk([4]int{top, 2, top, 3}, " a\n", "-b\n", "+c\n", "+d\n"), api.OK},
		{"nothing old, somewhere", samples.Hunk([4]int{5, 0, 9, 1}, "+a\n"), api.OK},
		{"bytes of all kinds", samples.Hunk([4]int{1, 1, 1, 1}, "-\x00\xff\r\n", "+ -+\t\n"), api.OK},
		{"the last old one lacks its feed", samples.Hunk([4]int{1, 2, 1, 2}, " a\n", "-b", "+b\n"), api.OK},
		{"the last new one lacks its feed", samples.Hunk([4]int{1, 2, 1, 2}, " a\n", "-b\n", "+b"), api.OK},
		{"the last old one and the last new one lack it", samples.Hunk([4]int{1, 1, 1, 1}, "-a", "+b"), api.OK},
		{"both, the new one first", samples.Hunk([4]int{1, 1, 1, 1}, "+b", "-a"), api.OK},
		{"the last one, which is kept, lacks its feed", samples.Hunk([4]int{1, 2, 1, 1}, "-a\n", " b"), api.OK},
		{"the last old one lacks it, new ones follow", samples.Hunk([4]int{1, 1, 1, 2}, "-a", "+b\n", "+c\n"), api.OK},
		{"the last new one lacks it, old ones follow", samples.Hunk([4]int{1, 2, 1, 1}, "+b", "-a\n", "-c\n"), api.OK},
		{"the only line lacks it", samples.Hunk([4]int{1, 1, 0, 0}, "-a"), api.OK},
	}
}

// wrongHunks are hunks with one thing wrong, or more; their numbers are in range.
func wrongHunks() []hunkCase {
	const top = api.MaxNumber
	return []hunkCase{
		{"a sign of no kind", samples.Hunk([4]int{1, 1, 1, 1}, "-a\n", "xb\n", "+c\n"), api.ErrField},
		{"a sign of no kind alone", samples.Hunk([4]int{1, 1, 0, 0}, "*a\n"), api.ErrField},
		{"the sign 0", samples.Hunk([4]int{1, 1, 0, 0}, "-a\n", "\x00a\n"), api.ErrField},
		{"the sign = first", samples.Hunk([4]int{1, 1, 0, 0}, "=a\n", "-b\n"), api.ErrField},
		{"an empty text, kept", samples.Hunk([4]int{1, 2, 1, 1}, " ", "-a\n"), api.ErrField},
		{"an empty text, removed", samples.Hunk([4]int{1, 1, 0, 0}, "-"), api.ErrField},
		{"an empty text, added", samples.Hunk([4]int{0, 0, 1, 1}, "+"), api.ErrField},
		{"a feed ahead of the end, kept", samples.Hunk([4]int{1, 2, 1, 1}, " a\nb\n", "-a\n"), api.ErrField},
		{"a feed ahead of the end, removed", samples.Hunk([4]int{1, 1, 0, 0}, "-a\nb"), api.ErrField},
		{"a feed ahead of the end, added", samples.Hunk([4]int{0, 0, 1, 1}, "+\n\n"), api.ErrField},
		{"an old one lacks its feed, and is not the last", samples.Hunk([4]int{1, 2, 0, 0}, "-a", "-b\n"), api.ErrField},
		{"an old one lacks its feed, and one behind it is kept", samples.Hunk([4]int{1, 2, 1, 1}, "-a", " b\n"), api.ErrField},
		{"a new one lacks its feed, and is not the last", samples.Hunk([4]int{0, 0, 1, 2}, "+a", "+b\n"), api.ErrField},
		{"a new one lacks its feed, and one behind it is kept", samples.Hunk([4]int{1, 1, 1, 2}, "+a", " b\n"), api.ErrField},
		{"a new one lacks its feed, further on there is another", samples.Hunk([4]int{1, 1, 1, 2}, "+a", "-c\n", "+b\n"), api.ErrField},
		{"one that is kept lacks its feed, an old one follows", samples.Hunk([4]int{1, 2, 1, 1}, " a", "-b\n"), api.ErrField},
		{"one that is kept lacks its feed, a new one follows", samples.Hunk([4]int{1, 1, 1, 2}, " a", "+b\n"), api.ErrField},
		{"one that is kept lacks its feed, both follow", samples.Hunk([4]int{1, 2, 1, 2}, " a", "-c\n", "+b\n"), api.ErrField},
		{"all lack it", samples.Hunk([4]int{1, 2, 1, 2}, "-a", "-b", "+c", "+d"), api.ErrField},
		{"fewer old lines", samples.Hunk([4]int{1, 2, 1, 1}, "-a\n", "+b\n"), api.ErrCount},
		{"more old lines", samples.Hunk([4]int{1, 1, 1, 1}, "-a\n", "-a\n", "+b\n"), api.ErrCount},
		{"fewer new lines", samples.Hunk([4]int{1, 1, 1, 2}, "-a\n", "+b\n"), api.ErrCount},
		{"more new lines", samples.Hunk([4]int{1, 1, 1, 1}, "-a\n", "+b\n", "+b\n"), api.ErrCount},
		{"counts exchanged", samples.Hunk([4]int{1, 1, 1, 2}, "-a\n", "-a\n", "+b\n"), api.ErrCount},
		{"a count for none", samples.Hunk([4]int{1, 1, 1, 1}), api.ErrCount},
		{"none is counted", samples.Hunk([4]int{0, 0, 0, 0}, "-a\n"), api.ErrCount},
		{"the greatest counts", samples.Hunk([4]int{1, top, 1, top}, "-a\n", "+b\n"), api.ErrCount},
		{"the greatest numbers", samples.Hunk([4]int{top, top, top, top}, "-a\n", "+b\n"), api.ErrCount},
		{"no lines", samples.Hunk([4]int{0, 0, 0, 0}), api.ErrScript},
		{"no lines, somewhere", samples.Hunk([4]int{3, 0, 4, 0}), api.ErrScript},
		{"kept ones alone", samples.Hunk([4]int{1, 2, 1, 2}, " a\n", " b\n"), api.ErrScript},
		{"a kept one alone, which lacks its feed", samples.Hunk([4]int{1, 1, 1, 1}, " a"), api.ErrScript},
		{"range ahead of field", samples.Hunk([4]int{0, 1, 0, 0}, "-"), api.ErrRange},
		{"range ahead of count", samples.Hunk([4]int{0, 2, 1, 1}, "-a\n", "+b\n"), api.ErrRange},
		{"range ahead of script", samples.Hunk([4]int{0, 1, 1, 1}, " a\n"), api.ErrRange},
		{"field ahead of count", samples.Hunk([4]int{1, 7, 0, 0}, "-"), api.ErrField},
		{"field ahead of script", samples.Hunk([4]int{1, 1, 1, 1}, " "), api.ErrField},
		{"a sign of no kind ahead of script", samples.Hunk([4]int{0, 0, 0, 0}, "xa\n"), api.ErrField},
		{"count ahead of script", samples.Hunk([4]int{1, 1, 1, 2}, " a\n"), api.ErrCount},
	}
}

func TestCheckOfEdges(t *testing.T) {
	for _, c := range slices.Concat(rightHunks(), wrongHunks()) {
		t.Run(c.name, func(t *testing.T) {
			checkCheck(t, c.h, c.want)
			if want := wrongByWords(c.h); want != c.want {
				t.Errorf("%s: by words %d, want %d", told(c.h), want, c.want)
			}
		})
	}
}

func TestEverySign(t *testing.T) {
	for sign := range 256 {
		want := api.ErrField
		switch sign {
		case ' ':
			want = api.OK
		case '-', '+':
			want = api.ErrCount
		}
		h := samples.Hunk([4]int{1, 2, 1, 2}, "-a\n", "+b\n")
		h.Lines = append(h.Lines, api.Mark{Sign: byte(sign), Text: "c\n"})
		checkCheck(t, h, want)
	}
}

// shortMarks are lines of each sign, and of one that is none, with texts of each kind.
func shortMarks() []api.Mark {
	var l []api.Mark
	for _, sign := range []byte(" -+x") {
		for _, text := range []string{"a\n", "b", "\n", "", "a\nb", "\n\n"} {
			l = append(l, api.Mark{Sign: sign, Text: text})
		}
	}
	return l
}

// counted is a hunk of lines with the counts that fit.
func counted(a, b int, l []api.Mark) api.Hunk {
	h := api.Hunk{A: a, B: b, Lines: l}
	h.AN, h.BN = signed(h, " -"), signed(h, " +")
	return h
}

func TestCheckOfAllShortHunks(t *testing.T) {
	samples.Lists(shortMarks(), 3, func(l []api.Mark) {
		for _, numbers := range [][4]int{{1, 0, 1, 0}, {0, 0, 0, 0}, {1, 1, 1, 0}, {1, 0, 1, -1}} {
			h := counted(numbers[0], numbers[2], l)
			h.AN, h.BN = h.AN+numbers[1], h.BN+numbers[3]
			checkCheck(t, h, wrongByWords(h))
		}
	})
	samples.Lists(samples.Marks(" a\n", "-a\n", "+a\n", " a", "-a", "+a"), 5, func(l []api.Mark) {
		h := counted(1, 1, l)
		checkCheck(t, h, wrongByWords(h))
	})
}

func TestCheckOfAllNumbers(t *testing.T) {
	numbers := []int{-1, 0, 1, 2, api.MaxNumber, api.MaxNumber + 1, math.MaxInt, math.MinInt}
	texts := [][]string{{"-a\n"}, {"+a\n"}, {"-a\n", "+b\n"}, {" a\n", "-b\n"}, {" a\n"}, {"-"}, nil}
	samples.Lists(numbers, 4, func(l []int) {
		if len(l) != 4 {
			return
		}
		for _, text := range texts {
			h := samples.Hunk([4]int(l), text...)
			checkCheck(t, h, wrongByWords(h))
		}
	})
}

func TestCheckHasNoLimit(t *testing.T) {
	const n = 3 * api.MaxLines
	l := slices.Concat(slices.Repeat(samples.Marks("-a\n"), n), slices.Repeat(samples.Marks(" a\n"), n), slices.Repeat(samples.Marks("+a\n"), n), samples.Marks("-b", "+c"))
	h := counted(1, 1, l)
	checkCheck(t, h, api.OK)
	h.Lines[2*n].Text = "a"
	checkCheck(t, h, api.ErrField)
	long := samples.Hunk([4]int{1, 1, 0, 0}, "-"+strings.Repeat("x", 2*api.MaxText)+"\n")
	checkCheck(t, long, api.OK)
}

// Promise 11.3: Order.

// orderCase is a row of hunks, and what is wrong with it.
type orderCase struct {
	name string
	l    []api.Hunk
	want api.Errno
}

// at is a hunk that changes a line, with its numbers as given.
func at(a, b int) api.Hunk { return samples.Hunk([4]int{a, 1, b, 1}, "-a\n", "+b\n") }

// takes is a hunk that takes out n lines, puts is one that puts them in.
func takes(a, n, b int) api.Hunk {
	return counted(a, b, slices.Repeat(samples.Marks("-a\n"), n))
}

func puts(a, b, n int) api.Hunk {
	return counted(a, b, slices.Repeat(samples.Marks("+b\n"), n))
}

// orderCases are rows at the edges of what is in order.
func orderCases() []orderCase {
	const top = api.MaxNumber
	row := func(l ...api.Hunk) []api.Hunk { return l }
	empty, field := samples.Hunk([4]int{3, 0, 3, 0}), samples.Hunk([4]int{3, 1, 2, 0}, "-")
	return []orderCase{
		{"none", nil, api.OK},
		{"an empty row", []api.Hunk{}, api.OK},
		{"one, at the first line", row(at(1, 1)), api.OK},
		{"one, further on", row(at(7, 7)), api.OK},
		{"one, at the greatest place", row(at(top, top)), api.OK},
		{"one that takes out the first line", row(takes(1, 1, 0)), api.OK},
		{"one that takes out further on", row(takes(7, 1, 6)), api.OK},
		{"one that puts in ahead of all", row(puts(0, 1, 1)), api.OK},
		{"one that puts in further on", row(puts(6, 7, 2)), api.OK},
		{"the first one further on in the new text", row(at(1, 2)), api.ErrOrder},
		{"the first one further on in the old text", row(at(2, 1)), api.ErrOrder},
		{"the first one takes out, as far as its numbers say", row(takes(1, 1, 1)), api.ErrOrder},
		{"the first one takes out, the new text is further off", row(takes(3, 1, 1)), api.ErrOrder},
		{"the first one puts in, as far as its numbers say", row(puts(1, 1, 1)), api.ErrOrder},
		{"two that touch", row(at(1, 1), at(2, 2)), api.OK},
		{"two with a line between", row(at(1, 1), at(3, 3)), api.OK},
		{"two far off", row(at(1, 1), at(top, top)), api.OK},
		{"two at one place", row(at(1, 1), at(1, 1)), api.ErrOrder},
		{"two that overlap by a line", row(takes(1, 2, 0), at(2, 1)), api.ErrOrder},
		{"two that overlap in both by a line", row(samples.Hunk([4]int{1, 2, 1, 2}, "-a\n", "+b\n", " c\n"), at(2, 2)), api.ErrOrder},
		{"two that overlap in the old text", row(samples.Hunk([4]int{1, 2, 1, 1}, "-a\n", " c\n"), at(2, 2)), api.ErrOrder},
		{"two that overlap in the new text", row(samples.Hunk([4]int{1, 1, 1, 2}, "+a\n", " c\n"), at(2, 2)), api.ErrOrder},
		{"two the wrong way round", row(at(3, 3), at(1, 1)), api.ErrOrder},
		{"farther in the old text", row(at(1, 1), at(4, 3)), api.ErrOrder},
		{"farther in the new text", row(at(1, 1), at(3, 4)), api.ErrOrder},
		{"as far behind one that takes out", row(takes(1, 2, 0), at(5, 3)), api.OK},
		{"as their numbers, behind one that takes out", row(takes(1, 2, 0), at(5, 5)), api.ErrOrder},
		{"as far behind one that puts in", row(puts(0, 1, 2), at(3, 5)), api.OK},
		{"as their numbers, behind one that puts in", row(puts(0, 1, 2), at(3, 3)), api.ErrOrder},
		{"one that puts in right behind one that takes out", row(takes(1, 2, 0), puts(2, 1, 3)), api.OK},
		{"one that takes out right behind one that puts in", row(puts(0, 1, 3), takes(1, 2, 3)), api.OK},
		{"one that puts in behind one that puts in", row(puts(0, 1, 1), puts(0, 2, 1)), api.OK},
		{"one that puts in within what is taken out", row(takes(1, 2, 0), puts(1, 1, 1)), api.ErrOrder},
		{"one that takes out ahead of what is put in", row(puts(3, 4, 1), takes(3, 1, 2)), api.ErrOrder},
		{"three in order", row(takes(1, 2, 0), at(5, 3), puts(7, 6, 2)), api.OK},
		{"the third is not as far", row(takes(1, 2, 0), at(5, 3), puts(7, 7, 2)), api.ErrOrder},
		{"the second is not as far, the third makes up for it", row(at(1, 1), at(4, 5), at(9, 9)), api.ErrOrder},
		{"the greatest place twice", row(at(top, top), at(top, top)), api.ErrOrder},
		{"beyond the greatest place nothing stands", row(at(top, top), puts(top, top, 1)), api.ErrOrder},
		{"behind the greatest place one comes", row(takes(top, 1, top-1), puts(top, top, 1)), api.OK},
		{"up to the greatest place", row(at(top-1, top-1), at(top, top)), api.OK},
		{"many lines at the greatest place", row(takes(top, 3, top-1), at(top, top)), api.ErrOrder},
		{"the only one is not right", row(empty), api.ErrScript},
		{"the first one is not right", row(empty, at(7, 7)), api.ErrScript},
		{"the last one is not right", row(at(1, 1), empty), api.ErrScript},
		{"one between is not right", row(at(1, 1), empty, at(7, 7)), api.ErrScript},
		{"two are not right", row(at(1, 1), field, empty), api.ErrField},
		{"two are not right, the other way round", row(at(1, 1), empty, field), api.ErrScript},
		{"one is not right, behind some that are not in order", row(at(5, 5), at(1, 1), field), api.ErrField},
		{"the first stands at different places, the last is not right", row(at(5, 6), takes(9, 1, -1)), api.ErrRange},
		{"one is not right, ahead of some that are not in order", row(samples.Hunk([4]int{3, 2, 2, 0}, "-a\n"), at(5, 5), at(1, 1)), api.ErrCount},
	}
}

func TestOrderOfEdges(t *testing.T) {
	for _, c := range orderCases() {
		t.Run(c.name, func(t *testing.T) { checkOrder(t, c.l, c.want) })
	}
}

// stands is where a hunk stands in a text, from 0 on, and where it ends there.
func stands(number, count int) (from, end int) {
	if count > 0 {
		return number - 1, number - 1 + count
	}
	return number, number
}

// orderByWords is what is wrong with a row of hunks, by the chapter's words.
func orderByWords(l []api.Hunk) api.Errno {
	for _, h := range l {
		if err := wrongByWords(h); err != api.OK {
			return err
		}
	}
	for i, h := range l {
		a, _ := stands(h.A, h.AN)
		b, _ := stands(h.B, h.BN)
		if i == 0 {
			if a != b {
				return api.ErrOrder
			}
			continue
		}
		_, endA := stands(l[i-1].A, l[i-1].AN)
		_, endB := stands(l[i-1].B, l[i-1].BN)
		if a < endA || b < endB || a-endA != b-endB {
			return api.ErrOrder
		}
	}
	return api.OK
}

// shortHunks are hunks of few lines at all places up to most, right or not.
func shortHunks(most int) []api.Hunk {
	var l []api.Hunk
	for _, texts := range [][]string{{"-a\n"}, {"+b\n"}, {"-a\n", "+b\n"}, {" c\n", "-a\n"}, {"+b\n", " c\n"}, {" c\n"}} {
		for a := range most + 1 {
			for b := range most + 1 {
				l = append(l, counted(a, b, samples.Marks(texts...)))
			}
		}
	}
	return l
}

func TestOrderOfAllShortRows(t *testing.T) {
	samples.Lists(shortHunks(4), 2, func(l []api.Hunk) { checkOrder(t, l, orderByWords(l)) })
	samples.Lists(shortHunks(2), 3, func(l []api.Hunk) { checkOrder(t, l, orderByWords(l)) })
}

func TestOrderHasNoLimit(t *testing.T) {
	var l []api.Hunk
	for i := range 3 * api.MaxHunks {
		l = append(l, takes(2*i+1, 1, i))
	}
	checkOrder(t, l, api.OK)
	checkOrder(t, append(slices.Clone(l), at(6*api.MaxHunks, 3*api.MaxHunks)), api.OK)
	checkOrder(t, append(slices.Clone(l), at(6*api.MaxHunks, 3*api.MaxHunks+1)), api.ErrOrder)
}

// Promise 11.3: Old and New.

// sideByWords is the lines of a hunk that have one of some signs.
func sideByWords(h api.Hunk, signs string) []string {
	var l []string
	for _, m := range h.Lines {
		if strings.Contains(signs, string(rune(m.Sign))) {
			l = append(l, m.Text)
		}
	}
	return l
}

// checkSides holds Old and New against what they must answer.
func checkSides(t *testing.T, h api.Hunk, old, made []string) {
	t.Helper()
	if l := hunks.Old(h); !slices.Equal(l, old) {
		t.Errorf("old lines of %s: %q, want %q", told(h), l, old)
	}
	if l := hunks.New(h); !slices.Equal(l, made) {
		t.Errorf("new lines of %s: %q, want %q", told(h), l, made)
	}
}

func TestOldAndNewOfEdges(t *testing.T) {
	checkSides(t, api.Hunk{}, nil, nil)
	checkSides(t, samples.Hunk([4]int{1, 2, 3, 4}), nil, nil)
	checkSides(t, samples.Hunk([4]int{1, 1, 0, 0}, "-a\n"), []string{"a\n"}, nil)
	checkSides(t, samples.Hunk([4]int{0, 0, 1, 1}, "+a\n"), nil, []string{"a\n"})
	checkSides(t, samples.Hunk([4]int{1, 3, 1, 3}, " a\n", "-b\n", "+c\n", " d"), []string{"a\n", "b\n", "d"}, []string{"a\n", "c\n", "d"})
	checkSides(t, samples.Hunk([4]int{-1, 0, -1, 0}, "+c\n", " a\n", "-b\n", "+b\n", "-c\n"), []string{"a\n", "b\n", "c\n"}, []string{"c\n", "a\n", "b\n"})
	checkSides(t, samples.Hunk([4]int{1, 9, 1, 9}, "xa\n", " ", "-", "+", "\x00b", "-a\nb", "+\n\n"), []string{"", "", "a\nb"}, []string{"", "", "\n\n"})
}

func TestOldAndNewOfAllShortHunks(t *testing.T) {
	samples.Lists(shortMarks(), 3, func(l []api.Mark) {
		h := api.Hunk{A: len(l), Lines: l}
		checkSides(t, h, sideByWords(h, " -"), sideByWords(h, " +"))
	})
	for sign := range 256 {
		h := api.Hunk{Lines: []api.Mark{{Sign: byte(sign), Text: "a\n"}}}
		checkSides(t, h, sideByWords(h, " -"), sideByWords(h, " +"))
	}
}

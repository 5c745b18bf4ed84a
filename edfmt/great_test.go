package edfmt_test

import (
	"slices"
	"strconv"
	"strings"
	"testing"

	"redline/api"
	"redline/samples"
)

// Promise 13.2, of texts that are long, and of many commands.

func TestRunOfTextsOfAllBytesThatMayBe(t *testing.T) {
	line := strings.Repeat("x", api.MaxText-len("1c\n\n.\n")) + "\n"
	text := "1c\n" + line + ".\n"
	checkRun(t, text, three(), []string{line, "2\n", "3\n"})
	checkFault(t, "0"+text, three(), 0, api.ErrLong)
	checkFault(t, text+"\n", three(), 0, api.ErrLong)
	checkFault(t, text+text, nil, 0, api.ErrLong)
	checkFault(t, text[:api.MaxText-1], three(), 3, api.ErrText)
	checkFault(t, text[:api.MaxText-2], three(), 3, api.ErrShort)
	checkFault(t, "9"+text[1:], three(), 1, api.ErrRange)
	for _, wrong := range []string{"\n", "x", "\x00", ".\n", "9d\n"} {
		_, at, code := runByWords(wrong, nil)
		most := strings.Repeat(wrong, api.MaxText)[:api.MaxText]
		checkFault(t, most, nil, at, code)
		checkFault(t, most+"\n", nil, 0, api.ErrLong)
		checkFault(t, most+most, nil, 0, api.ErrLong)
	}
}

// The limit is that of the commands' text: there may be more lines, and longer ones, than may be compared.
func TestRunHasNoLimitOfLines(t *testing.T) {
	a := samples.Named("a", 5*api.MaxLines)
	checkRun(t, "", a, a)
	checkRun(t, "1d\n", a, a[1:])
	checkRun(t, strconv.Itoa(len(a))+"d\n", a, a[:len(a)-1])
	checkRun(t, "1,"+strconv.Itoa(len(a))+"d\n", a, nil)
	checkFault(t, strconv.Itoa(len(a)+1)+"d\n", a, 1, api.ErrRange)
	long := strings.Repeat("x", 2*api.MaxText)
	checkRun(t, "0a\ny\n.\n", []string{long}, []string{"y\n", long + "\n"})
	n := (api.MaxText - len("0a\n.\n")) / 2
	checkRun(t, "0a\n"+strings.Repeat("x\n", n)+".\n", nil, slices.Repeat([]string{"x\n"}, n))
	checkFault(t, "0a\n"+strings.Repeat("x\n", n), nil, n+2, api.ErrShort)
}

// As many commands as there is room for: at the front, at the end, in the middle, further ones, and such that undo one another.
func TestRunOfVeryManyCommands(t *testing.T) {
	fit := func(s string) int { return api.MaxText / len(s) }
	front := "0a\nx\n.\n"
	checkRun(t, strings.Repeat(front, fit(front)), nil, slices.Repeat([]string{"x\n"}, fit(front)))
	further := "a\n..\n.\ns/.//\n"
	n := fit(further) - 1
	checkRun(t, front+strings.Repeat(further, n), three(), slices.Concat([]string{"x\n"}, slices.Repeat([]string{".\n"}, n), three()))
	undone := "1a\nx\n.\n2d\n"
	checkRun(t, strings.Repeat(undone, fit(undone)), three(), three())
	a := samples.Named("a", fit("1d\n"))
	checkRun(t, strings.Repeat("1d\n", len(a)), a, nil)
	checkFault(t, strings.Repeat("1d\n", len(a)), a[1:], len(a), api.ErrRange)
	changed := "2c\nx\ny\n.\n"
	checkRun(t, strings.Repeat(changed, fit(changed)), three()[:2], slices.Concat([]string{"1\n"}, slices.Repeat([]string{"x\n", "y\n"}, 1), slices.Repeat([]string{"y\n"}, fit(changed)-1)))
}

// commandsFrom is count commands for a text of so many lines, out of a row of numbers that looks like no order, and the lines that are there then are not below least.
func commandsFrom(seed uint64, count, length, least int) string {
	next := func(below int) int {
		seed = seed*6364136223846793005 + 1442695040888963407
		return int(seed >> 33 % uint64(below))
	}
	var s strings.Builder
	put := func(lines int) {
		for i := range lines {
			s.WriteString("put " + strconv.Itoa(next(1000)) + " " + strconv.Itoa(i) + "\n")
		}
		s.WriteString(".\n")
	}
	for range count {
		first := 1 + next(length)
		last := min(length, first+next(1+next(1200)))
		lines := 1 + next(1+next(1500))
		switch kind := next(8); {
		case kind < 2 && last > first && length-(last-first+1) >= least:
			s.WriteString(strconv.Itoa(first) + "," + strconv.Itoa(last) + "d\n")
			length -= last - first + 1
		case kind < 4 && last > first:
			s.WriteString(strconv.Itoa(first) + "," + strconv.Itoa(last) + "c\n")
			put(lines)
			length += lines - (last - first + 1)
		case kind < 6:
			s.WriteString(strconv.Itoa(first-next(2)) + "a\n")
			put(lines)
			s.WriteString("s/.//\ns/.//\na\n")
			put(1)
			length += lines + 1
		default:
			s.WriteString(strconv.Itoa(first) + "c\n")
			put(1)
		}
	}
	return s.String()
}

// Texts of thousands of lines, which grow and shrink by pieces of all sizes.
func TestRunOfManyCommandsInLongTexts(t *testing.T) {
	for seed := range uint64(8) {
		for _, length := range []int{1, 511, 512, 513, 1023, 1024, 1025, 1536, 1537, 4096, 9000} {
			text := commandsFrom(seed*31+uint64(length), 60, length, 1)
			if len(text) > api.MaxText {
				t.Fatalf("%d bytes of commands", len(text))
			}
			a := samples.Named("a", length)
			want, at, code := runByWords(text, a)
			if code != api.OK {
				t.Fatalf("the commands are wrong at %d: %d", at, code)
			}
			checkRun(t, text, a, want)
			checkRun(t, text+endLine, a, samples.Unfed(want))
		}
	}
}

// Pieces of a long text that go, and lines that come, around each place where it may be parted.
func TestRunAroundEachPlaceOfALongText(t *testing.T) {
	a := samples.Named("a", 2600)
	put := samples.Named("b", 1030)
	for _, place := range []int{0, 1, 2, 255, 256, 511, 512, 513, 1023, 1024, 1025, 1535, 1536, 1537, 2047, 2048, 2049, 2559, 2560, 2561, 2599, 2600} {
		for _, n := range []int{1, 2, 511, 512, 513, 1023, 1024, 1025, 1030} {
			text := strconv.Itoa(place) + "a\n" + strings.Join(put[:n], "") + ".\n"
			want := slices.Concat(a[:place], put[:n], a[place:])
			checkRun(t, text, a, want)
			checkRun(t, text+"s/.//\na\nx\n.\n", a, slices.Concat(a[:place], put[:n-1], []string{put[n-1][1:], "x\n"}, a[place:]))
			if n > 1 {
				back := strconv.Itoa(place+1) + "," + strconv.Itoa(place+n) + "d\n"
				checkRun(t, text+back, a, a)
				checkRun(t, text+back+text, a, want)
			}
			if n > 1 && place+n <= len(a) {
				checkRun(t, strconv.Itoa(place+1)+","+strconv.Itoa(place+n)+"d\n", a, slices.Concat(a[:place], a[place+n:]))
				checkRun(t, strconv.Itoa(place+1)+","+strconv.Itoa(place+n)+"c\nx\n.\n", a, slices.Concat(a[:place], []string{"x\n"}, a[place+n:]))
			}
		}
	}
}

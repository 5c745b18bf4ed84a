package rcsfmt_test

import (
	"slices"
	"strconv"
	"strings"
	"testing"

	"redline/api"
	"redline/samples"
)

// Promise 14.2, of texts that are long, and of many commands.

func TestRunOfTextsOfAllBytesThatMayBe(t *testing.T) {
	a := numbered(3)
	line := strings.Repeat("x", api.MaxText-len("a3 1\n\n")) + "\n"
	text := "a3 1\n" + line
	checkRun(t, text, a, append(numbered(3), line))
	checkRun(t, text[:api.MaxText-1]+"y", a, append(numbered(3), line[:len(line)-1]+"y"))
	checkFault(t, text[:api.MaxText-1]+"y", a[:2], 1, api.ErrRange)
	checkFault(t, "a0"+text[2:api.MaxText-1]+"y", a, 3, api.ErrField)
	checkFault(t, "a3 2"+text[4:], a, 3, api.ErrShort)
	checkFault(t, text+"\n", a, 0, api.ErrLong)
	checkFault(t, text+"x", a, 0, api.ErrLong)
	checkFault(t, "x"+text, a, 0, api.ErrLong)
	checkFault(t, text+text, nil, 0, api.ErrLong)
	for _, wrong := range []string{"\n", "x", "\x00", "d9 1\n", "d1 1\n", "a0 2\n", "a0 1\n"} {
		most := strings.Repeat(wrong, api.MaxText)[:api.MaxText]
		checkByWords(t, most, a)
		checkFault(t, most+"\n", a, 0, api.ErrLong)
		checkFault(t, most+most, nil, 0, api.ErrLong)
	}
}

// The limit is that of the commands' text: there may be more lines, and longer ones, than may be compared.
func TestRunHasNoLimitOfLines(t *testing.T) {
	a := samples.Named("a", 5*api.MaxLines)
	all := strconv.Itoa(len(a))
	checkRun(t, "", a, a)
	checkRun(t, "d1 1\n", a, a[1:])
	checkRun(t, "d"+all+" 1\n", a, a[:len(a)-1])
	checkRun(t, "d1 "+all+"\n", a, nil)
	checkRun(t, "a"+all+" 1\nx", a, append(slices.Clone(a), "x"))
	checkFault(t, "d"+strconv.Itoa(len(a)+1)+" 1\n", a, 1, api.ErrRange)
	checkFault(t, "d2 "+all+"\n", a, 1, api.ErrRange)
	long := strings.Repeat("x", 2*api.MaxText)
	checkRun(t, "a0 1\ny\n", []string{long}, []string{"y\n", long})
	n := (api.MaxText - len("a0 1234567\n")) / 2
	x := slices.Repeat([]string{"x\n"}, n)
	checkRun(t, "a0 "+strconv.Itoa(n)+"\n"+strings.Join(x, ""), nil, x)
	checkFault(t, "a0 "+strconv.Itoa(n+1)+"\n"+strings.Join(x, ""), nil, n+2, api.ErrShort)
	checkFault(t, "a0 "+strconv.Itoa(n-1)+"\n"+strings.Join(x, ""), nil, n+1, api.ErrText)
}

// manyCommands is as many commands as there is room for, for the lines from 1 on: each number comes once, where a % stands.
func manyCommands(command string) (text string, count int) {
	var s strings.Builder
	for {
		next := strings.ReplaceAll(command, "%", strconv.Itoa(count+1))
		if s.Len()+len(next) > api.MaxText {
			return s.String(), count
		}
		s.WriteString(next)
		count++
	}
}

func TestRunOfVeryManyCommands(t *testing.T) {
	goes, n := manyCommands("d% 1\n")
	a := numbered(n)
	checkRun(t, goes, a, nil)
	checkRun(t, goes, append(numbered(n), "end"), []string{"end"})
	checkFault(t, goes, a[:n-1], n, api.ErrRange)

	comes, n := manyCommands("a% 1\nx\n")
	var want []string
	for _, line := range numbered(n) {
		want = append(want, line, "x\n")
	}
	checkRun(t, comes, numbered(n), want)
	checkFault(t, comes, numbered(n-1), 2*n-1, api.ErrRange)

	both, n := manyCommands("d% 1\na% 2\nx\n\n")
	checkRun(t, both, numbered(n), slices.Repeat([]string{"x\n", "\n"}, n))
	checkFault(t, both[:len(both)-1], numbered(n), 4*n, api.ErrShort)
}

// commandsFrom is right commands for a text of so many lines, out of a row of numbers that looks like no order.
func commandsFrom(seed uint64, length int) string {
	next := func(below int) int {
		seed = seed*6364136223846793005 + 1442695040888963407
		return int(seed >> 33 % uint64(below))
	}
	var s strings.Builder
	put := func(at int) {
		count := 1 + next(4)
		s.WriteString("a" + strconv.Itoa(at) + " " + strconv.Itoa(count) + "\n")
		for range count {
			s.WriteString([]string{"\n", "put " + strconv.Itoa(next(1000)) + "\n", "d1 1\n", "a0 1\n"}[next(4)])
		}
	}
	for at := 0; ; {
		if next(3) == 0 {
			put(at)
		}
		at += next(1 + next(40)) // with no line passed over, what goes stands right behind
		if at >= length {
			return s.String()
		}
		gone := 1 + next(min(length-at, 1+next(20)))
		s.WriteString("d" + strconv.Itoa(at+1) + " " + strconv.Itoa(gone) + "\n")
		at += gone
	}
}

func TestRunOfManyCommandsInLongTexts(t *testing.T) {
	for seed := range uint64(20) {
		for _, length := range []int{1, 2, 10, 100, 1000, 9000} {
			text := commandsFrom(seed*31+uint64(length), length)
			a := samples.Named("a", length)
			want, at, code := runByWords(text, a)
			if code != api.OK {
				t.Fatalf("the commands are wrong at %d: %d", at, code)
			}
			checkRun(t, text, a, want)
			checkByWords(t, text, a[1:])
			checkByWords(t, text, samples.Unfed(a))
			checkByWords(t, text+text, a)
			if len(text) > 1 {
				checkByWords(t, text[:len(text)-1], a)
			}
		}
	}
}

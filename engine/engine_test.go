package engine_test

import (
	"fmt"
	"math"
	"slices"
	"strings"
	"testing"

	"redline/api"
	"redline/canon"
	"redline/edits"
	"redline/engine"
	"redline/histogram"
	"redline/intern"
	"redline/lines"
	"redline/minimal"
	"redline/patience"
	"redline/samples"
	"redline/speedy"
)

var (
	none = api.Ignore{}
	all  = api.Ignore{Space: true, White: true, Blank: true, Case: true, Tabs: true, Trail: true}
)

// engines are the four that there are.
func engines() []int {
	return []int{api.Minimal, api.Patience, api.Histogram, api.Speedy}
}

// strangers are numbers that are no engine's.
func strangers() []int {
	return []int{
		0, -1, -2, -3, -4, 5, 6, 9, 255, 256, 257, 65537, math.MaxInt32, math.MinInt32,
		1 + 1<<32, 4 - 1<<32, math.MaxInt, math.MinInt, math.MinInt + 1, math.MaxInt - 1,
	}
}

// told is a list as it is told, of a long one its beginning.
func told(l any) string {
	return fmt.Sprintf("%.200s", fmt.Sprintf("%q", l))
}

// checkDiff holds Diff against what it must answer.
func checkDiff(t *testing.T, number int, a, b []string, o api.Ignore, want []api.Change, code api.Errno) {
	t.Helper()
	l, err := engine.Diff(number, a, b, o)
	if !slices.Equal(l, want) || err != code {
		t.Errorf("engine %d, %+v: diff of %s and %s: %.200v, %d, want %.200v, %d", number, o, told(a), told(b), l, err, want, code)
	}
}

// checkSigns holds Diff against what is done with each line.
func checkSigns(t *testing.T, number int, a, b []string, o api.Ignore, signs string) {
	t.Helper()
	checkDiff(t, number, a, b, o, samples.Script(signs), api.OK)
}

// diffByWords is what Diff answers of texts that are not too long, by the chapter's words.
func diffByWords(t *testing.T, number int, a, b []string, o api.Ignore) []api.Change {
	t.Helper()
	x, y, _ := intern.Classes(a, b, o)
	var l []api.Change
	err := api.ErrKind
	switch number {
	case api.Minimal:
		l, err = minimal.Diff(x, y)
	case api.Patience:
		l, err = patience.Diff(x, y)
	case api.Histogram:
		l, err = histogram.Diff(x, y)
	case api.Speedy:
		l, err = speedy.Diff(x, y, 4096)
	}
	if err != api.OK {
		t.Fatalf("engine %d of %d and %d lines: %d", number, len(a), len(b), err)
	}
	return l
}

// checkByWords holds Diff of each engine against the chapter's words.
func checkByWords(t *testing.T, a, b []string, o api.Ignore) {
	t.Helper()
	for _, number := range engines() {
		checkDiff(t, number, a, b, o, diffByWords(t, number, a, b, o), api.OK)
	}
}

// fourCase is two texts, and what each engine does with each line.
type fourCase struct {
	name  string
	a, b  []string
	o     api.Ignore
	signs [4]string // in the order of engines
}

// split is a text's lines: each letter of a word is one.
func split(word string) []string {
	l := strings.Split(word, "")
	for i := range l {
		l[i] += "\n"
	}
	return l
}

// fourCases are texts on which each engine answers otherwise than the others.
func fourCases() []fourCase {
	first := [4]string{"-=-==+", "++=---=", "--==+=", "-=-=+="}
	second := [4]string{"-+=-==+", "-+=+=-=", "+=-+=-=", "-+=-=+="}
	return []fourCase{
		{"more in a", split("abbca"), split("bcaa"), none, first},
		{"as many in both", split("aabcb"), split("cacbb"), none, second},
		{"with Case, great letters in a", split("ABBCA"), split("bcaa"), api.Ignore{Case: true}, first},
		{"with Case, great letters here and there", split("aAbCb"), split("caCBB"), api.Ignore{Case: true}, second},
		{"with Space", []string{"a  x\n", "b \n", "b\n", "c\r\n", "a x\n"}, []string{"b\t\n", "c\n", "a\tx \n", "a x\n"}, api.Ignore{Space: true}, first},
		{"with White", []string{"ax\n", " b\n", "b\n", "c\n", "a x\n"}, []string{"b\n", "\tc\n", "a  x\n", "ax \n"}, api.Ignore{White: true}, first},
		{"with Trail", []string{"a\n", "b \n", "b\n", "c\f\n", "a\t\n"}, []string{"b\v\n", "c\n", "a  \n", "a\n"}, api.Ignore{Trail: true}, first},
		{"with Tabs", []string{"\ta\n", "b\n", "b\n", "c\td\n", "        a\n"}, []string{"b\n", "c       d\n", " \ta\n", "\ta\n"}, api.Ignore{Tabs: true}, first},
		{"with Blank, which makes no lines the same", []string{"\n", " \n", " \n", "\t\n", "\n"}, []string{" \n", "\t\n", "\n", "\n"}, api.Ignore{Blank: true}, first},
		{"with all", []string{"\tA x\n", "B \n", " b\n", "C\n", "ax\n"}, []string{"b\r\n", "c\t\n", "a X\n", "AX\n"}, all, first},
		{"lines that lack their line feed", []string{"a", "b", "b", "c", "a"}, []string{"b", "c", "a", "a"}, none, first},
		{"what is no line", []string{"", "a\nb", "a\nb", "\n\n", ""}, []string{"a\nb", "\n\n", "", ""}, none, first},
	}
}

// Promise 10.1.

func TestEnginesAnswerOtherwiseThanOneAnother(t *testing.T) {
	for _, c := range fourCases() {
		t.Run(c.name, func(t *testing.T) {
			for i, number := range engines() {
				checkSigns(t, number, c.a, c.b, c.o, c.signs[i])
			}
		})
	}
}

func TestDiffOfTheChaptersExample(t *testing.T) {
	want := samples.Rows{{1, 1, 1, 0}}.Changes()
	checkDiff(t, api.Minimal, []string{"a\n", "b\n", "c\n"}, []string{"a\n", "c\n"}, none, want, api.OK)
	checkDiff(t, api.Minimal, []string{"A\n", "b\n", "c\n"}, []string{"a\n", "c\n"}, api.Ignore{Case: true}, want, api.OK)
	checkDiff(t, 9, []string{"a\n"}, []string{"b\n"}, none, nil, api.ErrKind)
}

// No lines in one text or in both, equal texts, nothing in common, and the like.
func TestPlainTexts(t *testing.T) {
	for _, c := range samples.Plain() {
		t.Run(c.Name, func(t *testing.T) {
			for _, number := range engines() {
				checkSigns(t, number, samples.Text(c.X), samples.Text(c.Y), none, c.Signs)
				checkSigns(t, number, samples.Text(c.X), samples.Text(c.Y), all, c.Signs)
			}
		})
	}
}

func TestOtherNumbersAreNoEngines(t *testing.T) {
	long := slices.Repeat([]string{"x\n"}, api.MaxLines+1)
	texts := [][]string{nil, {}, {"a\n"}, {"a\n", "b\n"}, long[1:], long}
	for _, number := range strangers() {
		for _, a := range texts {
			for _, b := range texts {
				checkDiff(t, number, a, b, none, nil, api.ErrKind)
				checkDiff(t, number, a, b, all, nil, api.ErrKind)
			}
		}
	}
}

func TestTooManyLinesAreRefused(t *testing.T) {
	for _, c := range samples.Sizes() {
		for _, line := range []string{"x\n", "y\n", "X \n"} { // the same, another one, one that may count as the same
			a, b := slices.Repeat([]string{"x\n"}, c.X), slices.Repeat([]string{line}, c.Y)
			for _, number := range engines() {
				for _, o := range []api.Ignore{none, all} {
					l, err := engine.Diff(number, a, b, o)
					if err != c.Err || err != api.OK && len(l) != 0 {
						t.Errorf("engine %d of %d and %d lines: %.200v, %d, want %d", number, c.X, c.Y, l, err, c.Err)
					}
				}
			}
		}
	}
}

func TestTheGreatestTexts(t *testing.T) {
	for _, c := range samples.Great() {
		a, b := samples.Text(c.X), samples.Text(c.Y)
		checkSigns(t, api.Patience, a, b, none, c.Signs)
		checkSigns(t, api.Histogram, a, b, none, c.Signs)
		checkDiff(t, api.Minimal, a, b, none, diffByWords(t, api.Minimal, a, b, none), api.OK)
		checkDiff(t, api.Speedy, a, b, none, diffByWords(t, api.Speedy, a, b, none), api.OK)
	}
}

// boundCase is two texts, and what Speedy does with each line; the least script of them keeps more than one found by going through once.
type boundCase struct {
	name  string
	x, y  []int
	signs string
}

// moved is n classes from 0 on; and m, of which the first n are these, the first one of them gone behind the others.
func moved(n, m int) (x, y []int) {
	x = samples.Count(0, n)
	return x, slices.Concat(x[1:], x[:1], samples.Count(n, m-n))
}

// leastOf is what the least script of moved texts does: the one that was moved goes, and comes again.
func leastOf(n, m int) string {
	return "-" + strings.Repeat("=", n-1) + strings.Repeat("+", m-n+1)
}

// onceOf is what going through moved texts once does: the one that was moved is found first.
func onceOf(n, m int) string {
	return strings.Repeat("+", n-1) + "=" + strings.Repeat("-", n-1) + strings.Repeat("+", m-n)
}

// boundCases are texts around the bound of 4096.
func boundCases() []boundCase {
	one := func(name string, n, m int, signs string) boundCase {
		x, y := moved(n, m)
		return boundCase{name, x, y, signs}
	}
	framed := func(name string, n, m int, signs string) boundCase {
		x, y := moved(n, m)
		front, end := samples.Count(5000, 1000), samples.Count(9000, 2000)
		kept := strings.Repeat("=", 1000)
		return boundCase{name, slices.Concat(front, x, end), slices.Concat(front, y, end), kept + signs + kept + kept}
	}
	f64 := samples.Count(1, 64)
	return []boundCase{
		one("64 times 64", 64, 64, leastOf(64, 64)),
		one("64 times 65", 64, 65, onceOf(64, 65)),
		one("16 times 256, just the bound", 16, 256, leastOf(16, 256)),
		one("17 times 241, one more than the bound", 17, 241, onceOf(17, 241)),
		one("15 times 273, one less than the bound", 15, 273, leastOf(15, 273)),
		framed("64 times 64 within what is equal", 64, 64, leastOf(64, 64)),
		framed("17 times 241 within what is equal", 17, 241, onceOf(17, 241)),
		{"1 times 4096, far off", []int{0}, slices.Concat(f64, []int{0}, samples.Count(100, 4031)), strings.Repeat("+", 64) + "=" + strings.Repeat("+", 4031)},
		{"2 times 4096, far off", []int{0, -1}, slices.Concat(f64, []int{0}, samples.Count(100, 4031)), "--" + strings.Repeat("+", 4096)},
	}
}

func TestSpeedyHasTheBound4096(t *testing.T) {
	for _, c := range boundCases() {
		t.Run(c.name, func(t *testing.T) {
			checkSigns(t, api.Speedy, samples.Text(c.x), samples.Text(c.y), none, c.signs)
		})
	}
}

// What counts as the same at the front and at the end is left out ahead of the bound, though the lines are not the same.
func TestTheBoundCountsWhatIsLeftUnderWhatIsIgnored(t *testing.T) {
	x, y := moved(64, 64)
	front, end := samples.Count(100, 10), samples.Count(200, 10)
	a := samples.Text(slices.Concat(front, x, end))
	b := samples.Text(slices.Concat(front, y, end))
	for i := range 10 {
		b[i] = strings.ToUpper(b[i])
		b[len(b)-1-i] = strings.ToUpper(b[len(b)-1-i])
	}
	same, goes, comes := strings.Repeat("=", 10), strings.Repeat("-", 10), strings.Repeat("+", 10)
	checkSigns(t, api.Speedy, a, b, api.Ignore{Case: true}, same+leastOf(64, 64)+same)
	checkSigns(t, api.Minimal, a, b, none, goes+comes+leastOf(64, 64)+goes+comes)
	// Places are 10 further off now, so that the one that was moved is out of reach.
	checkSigns(t, api.Speedy, a, b, none, goes+"-"+comes+strings.Repeat("=", 63)+"+"+goes+comes)
}

func TestEachKindOfDifferenceAlone(t *testing.T) {
	for _, p := range samples.Alikes() {
		for _, pair := range [][2]string{{p.A, p.B}, {p.B, p.A}} {
			a := []string{"first\n", pair[0], "second\n"}
			b := []string{"first\n", pair[1], "another\n", "third\n"}
			for _, number := range engines() {
				checkSigns(t, number, a, b, p.Ignored, "==-++")
				checkSigns(t, number, a, b, none, "=--+++")
				checkSigns(t, number, pair[:1], pair[1:], p.Ignored, "=")
				checkSigns(t, number, pair[:1], pair[1:], none, "-+")
				checkSigns(t, number, pair[:1], pair[1:], api.Ignore{Blank: true}, "-+")
			}
		}
	}
}

func TestALineFeedAlwaysCounts(t *testing.T) {
	for _, o := range samples.Ignores() {
		for _, number := range engines() {
			checkSigns(t, number, []string{"a\n", "b"}, []string{"a\n", "b\n"}, o, "=-+")
		}
	}
}

func TestDiffOfAllShortTexts(t *testing.T) {
	samples.Both(3, 4, func(x, y []int) { checkByWords(t, samples.Text(x), samples.Text(y), none) })
	samples.Both(2, 5, func(x, y []int) { checkByWords(t, samples.Text(x), samples.Text(y), none) })
}

// shortLines are lines some of which count as the same, under each of the options others.
func shortLines() []string {
	return []string{"a\n", "A \n", "\ta\n", "a", "\n"}
}

func TestDiffUnderAllThatMayBeIgnored(t *testing.T) {
	for _, o := range samples.Ignores() {
		samples.Lists(shortLines(), 2, func(a []string) {
			samples.Lists(shortLines(), 2, func(b []string) { checkByWords(t, a, b, o) })
		})
	}
}

func TestDiffOfLongerTexts(t *testing.T) {
	byWords := func(x, y []int) { checkByWords(t, samples.Text(x), samples.Text(y), none) }
	samples.Mixed(1000, 20, byWords)
	samples.Mixed(100, 300, byWords)
}

// Promise 10.3.

func TestNames(t *testing.T) {
	for i, want := range [4]string{"minimal", "patience", "histogram", "speedy"} {
		if s := engine.Name(engines()[i]); s != want {
			t.Errorf("engine %d: %q, want %q", engines()[i], s, want)
		}
	}
	for _, number := range strangers() {
		if s := engine.Name(number); s != "" {
			t.Errorf("engine %d has the name %q", number, s)
		}
	}
	for number := -1000; number <= 1000; number++ {
		if s := engine.Name(number); (s != "") != (number >= 1 && number <= 4) {
			t.Errorf("engine %d: %q", number, s)
		}
	}
}

// Promise 10.4.

// sameText tells whether two texts have as many lines, and count as the same line by line.
func sameText(a, b []string, o api.Ignore) bool {
	return slices.EqualFunc(a, b, func(p, q string) bool { return canon.Equal(p, q, o) })
}

// checkHonest says what follows of the script that an engine finds.
func checkHonest(t *testing.T, number int, a, b []string, o api.Ignore) {
	t.Helper()
	script, err := engine.Diff(number, a, b, o)
	wrong := func(what string) {
		t.Helper()
		t.Errorf("engine %d, %+v: diff of %s and %s: %.200v, %d: %s", number, o, told(a), told(b), script, err, what)
	}
	keep, code := edits.Keep(script, len(a), len(b))
	if err != api.OK || code != api.OK {
		wrong("no right edit script")
		return
	}
	for i, j := range keep {
		if j >= 0 && !canon.Equal(a[i], b[j], o) {
			wrong("it keeps what does not count as the same")
		}
	}
	there, _ := edits.Apply(script, a, b)
	back, code := edits.Apply(edits.Invert(script), b, a)
	if code != api.OK || !sameText(there, b, o) || !sameText(back, a, o) {
		wrong("it does not go there, or back")
	}
	if o == none && (!slices.Equal(there, b) || !slices.Equal(back, a)) {
		wrong("it does not make the very text")
	}
	if (len(script) == 0) != sameText(a, b, o) {
		wrong("changes, or none, though the texts count otherwise")
	}
	x, y, _ := intern.Classes(a, b, o)
	longest, _ := minimal.Length(x, y)
	kept := (len(a) + len(b) - edits.Cost(script)) / 2
	if kept > longest || number == api.Minimal && kept != longest {
		wrong("it keeps more than can be kept, or is not the least")
	}
}

// checkAllHonest says it of all engines.
func checkAllHonest(t *testing.T, a, b []string, o api.Ignore) {
	t.Helper()
	for _, number := range engines() {
		checkHonest(t, number, a, b, o)
	}
}

func TestDiffIsHonest(t *testing.T) {
	for _, c := range fourCases() {
		for _, o := range samples.Ignores() {
			checkAllHonest(t, c.a, c.b, o)
		}
	}
	for _, o := range samples.Ignores() {
		samples.Lists(shortLines(), 2, func(a []string) {
			samples.Lists(shortLines(), 2, func(b []string) { checkAllHonest(t, a, b, o) })
		})
	}
	samples.Mixed(300, 60, func(x, y []int) { checkAllHonest(t, samples.Text(x), samples.Text(y), none) })
	samples.Mixed(2, api.MaxLines, func(x, y []int) { checkAllHonest(t, samples.Text(x), samples.Text(y), none) })
}

func TestDiffOfTextsThatCountAsTheSame(t *testing.T) {
	var a, b []string
	for _, p := range samples.Alikes() {
		a, b = append(a, p.A), append(b, p.B)
	}
	for _, number := range engines() {
		checkDiff(t, number, a, b, all, nil, api.OK)
		checkDiff(t, number, a, slices.Clone(a), none, nil, api.OK)
		checkHonest(t, number, a, b, none)
		checkHonest(t, number, a, b[1:], all)
	}
}

// Rule R4.

func TestDiffLeavesTextsAlone(t *testing.T) {
	for _, c := range fourCases() {
		a, b := samples.Spare(c.a, "behind a"), samples.Spare(c.b, "behind b")
		for i, number := range engines() {
			checkSigns(t, number, a, b, c.o, c.signs[i])
		}
		if !samples.Left(a, c.a, "behind a") || !samples.Left(b, c.b, "behind b") {
			t.Errorf("%s: %q and %q have become %q and %q", c.name, c.a, c.b, a, b)
		}
	}
}

func TestDiffOfTextsThatShareMemory(t *testing.T) {
	l := split("abcbd")
	apart := [4]string{"--=++", "-+=-+", "-+=-+", "--=++"} // of abc and cbd
	for i, number := range engines() {
		checkSigns(t, number, l, l, none, "=====")
		checkSigns(t, number, l[:3], l[2:], none, apart[i])
	}
}

func TestDiffAnswersNewMemory(t *testing.T) {
	change := func(i int) api.Change { return api.Change{A: i} }
	for _, c := range fourCases() {
		for _, number := range engines() {
			script, _ := engine.Diff(number, c.a, c.b, c.o)
			another, _ := engine.Diff(number, c.a, c.b, c.o)
			if !samples.Apart(change, script, another) {
				t.Errorf("%s: the answers have become %v and %v by changes of one another", c.name, script, another)
			}
		}
	}
}

func FuzzDiff(f *testing.F) {
	f.Add("", "", 1, 0)
	f.Add("a\nb\nb\nc\na\n", "b\nc\na\na\n", 2, 0)
	f.Add("A\nb \nB\nc\na", "b\nC\n\ta\na", 3, 63)
	f.Add(strings.Repeat("a\nb\n", 40), strings.Repeat("b\na\na\n", 30), 4, 8)
	f.Add("a\n", "b\n", 5, 4)
	f.Fuzz(func(t *testing.T, s, u string, number, n int) {
		a, b := lines.Split(s), lines.Split(u)
		o := samples.Ignores()[uint(n)%64]
		if !slices.Contains(engines(), number) {
			checkDiff(t, number, a, b, o, nil, api.ErrKind)
			number = engines()[uint(number)%4]
		}
		if len(a) > api.MaxLines || len(b) > api.MaxLines {
			checkDiff(t, number, a, b, o, nil, api.ErrLong)
			return
		}
		checkDiff(t, number, a, b, o, diffByWords(t, number, a, b, o), api.OK)
		checkHonest(t, number, a, b, o)
	})
}

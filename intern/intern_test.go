package intern_test

import (
	"slices"
	"strconv"
	"strings"
	"testing"

	"redline/api"
	"redline/canon"
	"redline/intern"
	"redline/samples"
)

var (
	none = api.Ignore{}
	all  = api.Ignore{Space: true, White: true, Blank: true, Case: true, Tabs: true, Trail: true}
)

// met is the chapter's words without a map: of each class the line that was met first, in order.
type met struct {
	o     api.Ignore
	lines []string
}

// look is the number of the first line that counts as the same, or -1.
func (m *met) look(line string) int {
	return slices.IndexFunc(m.lines, func(s string) bool { return canon.Equal(s, line, m.o) })
}

// class is a line's number, the next one if no line of its class was met.
func (m *met) class(line string) int {
	if m.look(line) < 0 {
		m.lines = append(m.lines, line)
	}
	return m.look(line)
}

// classesByWords is what Classes answers, by the chapter's words.
func classesByWords(a, b []string, o api.Ignore) ([]int, []int, int) {
	m := met{o: o}
	var x, y []int
	for _, line := range a {
		x = append(x, m.class(line))
	}
	for _, line := range b {
		y = append(y, m.class(line))
	}
	return x, y, len(m.lines)
}

// checkLook holds a table's Look against what it must answer; -1 stands for none.
func checkLook(t *testing.T, table *intern.Table, line string, want int) {
	t.Helper()
	n, ok := table.Look(line)
	if ok != (want >= 0) || n != max(want, 0) {
		t.Errorf("look %q: %d, %v, want %d", line, n, ok, want)
	}
}

// checkClass holds a table's Class, and its Size behind that, against what they must answer.
func checkClass(t *testing.T, table *intern.Table, line string, want, size int) {
	t.Helper()
	if n := table.Class(line); n != want {
		t.Errorf("class of %q: %d, want %d", line, n, want)
	}
	if n := table.Size(); n != size {
		t.Errorf("behind the class of %q: size %d, want %d", line, n, size)
	}
}

// checkClasses holds Classes against what it must answer.
func checkClasses(t *testing.T, a, b []string, o api.Ignore, x, y []int, size int) {
	t.Helper()
	p, q, n := intern.Classes(a, b, o)
	if !slices.Equal(p, x) || !slices.Equal(q, y) || n != size {
		t.Errorf("%+v: classes of %q and %q: %v, %v, %d, want %v, %v, %d", o, a, b, p, q, n, x, y, size)
	}
}

// strangers are lines no two of which count as the same, whatever is ignored.
func strangers() []string {
	return []string{"a\n", "b\n", "a", "\n", "", "0\n", "[\n", "{\n", "@\n", "`\n", "\x00\n", "\xff\n", "\xfe\n", "\ufffd\n", "Ä\n", "ä\n", "\u00a0\n"}
}

// noLines are texts of several lines; what counts there is what canon says, as of any text.
func noLines() []string {
	return []string{"\n\n", "\n\n\n", "a\nb", "a\nb\n", "a\nB\n", "a \nb\n", "a\nb \n", "\na", "a\n\tb", "a\n      b"}
}

// manyLines are more different lines than any text that is compared may have.
func manyLines() []string {
	var l []string
	for i := range 3*api.MaxLines + 1 {
		l = append(l, "line "+strconv.Itoa(i)+"\n")
	}
	return l
}

// Promise 4.1.

func TestNewTableIsEmpty(t *testing.T) {
	for _, o := range samples.Ignores() {
		table := intern.New(o)
		if n := table.Size(); n != 0 {
			t.Errorf("%+v: size %d of a new table", o, n)
		}
		for _, line := range slices.Concat(strangers(), noLines()) {
			checkLook(t, table, line, -1)
		}
		if n := table.Size(); n != 0 {
			t.Errorf("%+v: size %d where Look alone was called", o, n)
		}
		checkClass(t, table, "x\n", 0, 1)
	}
}

func TestClassNumbersAsLinesAreMet(t *testing.T) {
	table := intern.New(none)
	for _, c := range []struct {
		line       string
		want, size int
	}{
		{"z\n", 0, 1},
		{"z\n", 0, 1},
		{"a\n", 1, 2},
		{"z\n", 0, 2},
		{"m\n", 2, 3},
		{"a\n", 1, 3},
		{"m\n", 2, 3},
		{"b\n", 3, 4},
		{"z\n", 0, 4},
	} {
		checkClass(t, table, c.line, c.want, c.size)
		checkLook(t, table, c.line, c.want)
	}
}

func TestLookChangesNothing(t *testing.T) {
	table := intern.New(none)
	checkLook(t, table, "a\n", -1)
	checkLook(t, table, "a\n", -1)
	checkLook(t, table, "b\n", -1)
	checkClass(t, table, "b\n", 0, 1)
	checkLook(t, table, "a\n", -1)
	checkLook(t, table, "c\n", -1)
	checkClass(t, table, "c\n", 1, 2)
	checkLook(t, table, "a\n", -1)
	checkLook(t, table, "b\n", 0)
	checkLook(t, table, "c\n", 1)
	if n := table.Size(); n != 2 {
		t.Errorf("size %d, want 2", n)
	}
	checkClass(t, table, "a\n", 2, 3)
}

func TestLinesThatCountAsTheSame(t *testing.T) {
	for _, p := range samples.Alikes() {
		for _, l := range [][]string{{p.A, p.B}, {p.B, p.A}} {
			table := intern.New(p.Ignored)
			checkClass(t, table, "first\n", 0, 1)
			checkLook(t, table, l[1], -1)
			checkClass(t, table, l[0], 1, 2)
			checkLook(t, table, l[1], 1)
			checkClass(t, table, l[1], 1, 2)

			table = intern.New(none)
			checkClass(t, table, l[0], 0, 1)
			checkLook(t, table, l[1], -1)
			checkClass(t, table, l[1], 1, 2)
		}
	}
}

func TestALineFeedAlwaysCounts(t *testing.T) {
	for _, o := range samples.Ignores() {
		for _, text := range []string{"", " ", "\t", "a", "A b ", "\x00", "\xff"} {
			table := intern.New(o)
			checkClass(t, table, text, 0, 1)
			checkLook(t, table, text+"\n", -1)
			checkClass(t, table, text+"\n", 1, 2)
			checkLook(t, table, text, 0)
			checkLook(t, table, text+"\n", 1)
		}
	}
}

func TestStrangersAreNeverTheSame(t *testing.T) {
	l := strangers()
	for _, o := range samples.Ignores() {
		table := intern.New(o)
		for i, line := range l {
			checkLook(t, table, line, -1)
			checkClass(t, table, line, i, i+1)
		}
		for i, line := range l {
			checkClass(t, table, line, i, len(l))
			checkLook(t, table, line, i)
		}
	}
}

// That lines are blank is asked for elsewhere: it makes no two of them one class.
func TestIgnoringBlankSaysNothing(t *testing.T) {
	table := intern.New(api.Ignore{Blank: true})
	for i, line := range []string{"\n", " \n", "\t\n", "", "a\n", "A\n"} {
		checkLook(t, table, line, -1)
		checkClass(t, table, line, i, i+1)
	}
}

func TestTablesBesideOneAnother(t *testing.T) {
	x, y, z := intern.New(none), intern.New(none), intern.New(api.Ignore{Case: true})
	checkClass(t, x, "a\n", 0, 1)
	checkLook(t, y, "a\n", -1)
	checkLook(t, z, "a\n", -1)
	checkClass(t, y, "b\n", 0, 1)
	checkClass(t, y, "a\n", 1, 2)
	checkClass(t, z, "A\n", 0, 1)
	checkClass(t, x, "A\n", 1, 2)
	checkLook(t, x, "b\n", -1)
	checkLook(t, y, "A\n", -1)
	checkLook(t, z, "a\n", 0)
	intern.Classes([]string{"c\n", "d\n"}, []string{"e\n"}, none)
	for _, table := range []*intern.Table{x, y, z} {
		checkLook(t, table, "c\n", -1)
	}
	if x.Size() != 2 || y.Size() != 2 || z.Size() != 1 {
		t.Errorf("sizes %d, %d, %d", x.Size(), y.Size(), z.Size())
	}
}

func TestTableKeepsWhatItIgnores(t *testing.T) {
	o := api.Ignore{Case: true}
	table := intern.New(o)
	checkClass(t, table, "a\n", 0, 1)
	o.Case, o.White = false, true
	checkClass(t, table, "A\n", 0, 1)
	checkClass(t, table, " a\n", 1, 2)
}

// act is one call on a table.
type act struct {
	line string
	look bool
}

func TestAllShortRowsOfActs(t *testing.T) {
	var acts []act
	for _, line := range []string{"a\n", "A \n", " a", "\tA"} {
		acts = append(acts, act{line, false}, act{line, true})
	}
	for _, o := range samples.Ignores() {
		samples.Lists(acts, 4, func(l []act) {
			table, m := intern.New(o), met{o: o}
			for _, a := range l {
				if a.look {
					checkLook(t, table, a.line, m.look(a.line))
				} else {
					want := m.class(a.line)
					checkClass(t, table, a.line, want, len(m.lines))
				}
			}
			if n := table.Size(); n != len(m.lines) {
				t.Errorf("%+v: %v: size %d, want %d", o, l, n, len(m.lines))
			}
		})
	}
}

func TestTableTakesWhatIsNoLine(t *testing.T) {
	for _, o := range samples.Ignores() {
		table, m := intern.New(o), met{o: o}
		for _, s := range noLines() {
			checkLook(t, table, s, m.look(s))
			want := m.class(s)
			checkClass(t, table, s, want, len(m.lines))
		}
	}
}

func TestTableHasNoLimit(t *testing.T) {
	table := intern.New(all)
	l := manyLines()
	for i, line := range l {
		checkClass(t, table, line, i, i+1)
	}
	for i, line := range l {
		checkLook(t, table, strings.ToUpper(line), i)
	}
	long := strings.Repeat("x", api.MaxText+1)
	checkClass(t, table, long, len(l), len(l)+1)
	checkClass(t, table, long+"x", len(l)+1, len(l)+2)
	checkClass(t, table, long+"\n", len(l)+2, len(l)+3)
	checkLook(t, table, strings.ToUpper(long)+" ", len(l))
}

// Promise 4.2.

func TestClassesOfEdges(t *testing.T) {
	fold := api.Ignore{Case: true}
	for _, c := range []struct {
		a, b []string
		o    api.Ignore
		x, y []int
		size int
	}{
		{nil, nil, none, nil, nil, 0},
		{[]string{}, []string{}, all, nil, nil, 0},
		{[]string{"a\n"}, nil, none, []int{0}, nil, 1},
		{nil, []string{"a\n"}, none, nil, []int{0}, 1},
		{nil, []string{"b\n", "a\n", "b\n"}, none, nil, []int{0, 1, 0}, 2},
		{[]string{"b\n", "a\n", "b\n"}, []string{}, none, []int{0, 1, 0}, nil, 2},
		{[]string{"a\n", "b\n", "a\n"}, []string{"b\n", "c\n"}, none, []int{0, 1, 0}, []int{1, 2}, 3},
		{[]string{"A\n", "b\n", "a\n"}, []string{"b\n", "c\n"}, fold, []int{0, 1, 0}, []int{1, 2}, 3},
		{[]string{"A\n", "b\n", "a\n"}, []string{"b\n", "c\n"}, none, []int{0, 1, 2}, []int{1, 3}, 4},
		{[]string{"b\n", "c\n"}, []string{"a\n", "b\n", "a\n"}, none, []int{0, 1}, []int{2, 0, 2}, 3},
		{[]string{"a\n", "b\n"}, []string{"c\n", "d\n"}, none, []int{0, 1}, []int{2, 3}, 4},
		{[]string{"a\n", "b\n"}, []string{"a\n", "b\n"}, none, []int{0, 1}, []int{0, 1}, 2},
		{[]string{"a\n", "b\n"}, []string{"b\n", "a\n"}, none, []int{0, 1}, []int{1, 0}, 2},
		{[]string{"a\n", "b"}, []string{"a", "b\n"}, none, []int{0, 1}, []int{2, 3}, 4},
		{[]string{"a\n", "b"}, []string{"A", "B "}, all, []int{0, 1}, []int{2, 1}, 3},
		{[]string{"x\n", "x\n", "x\n"}, []string{"x\n"}, none, []int{0, 0, 0}, []int{0}, 1},
		{[]string{"", "\n", ""}, []string{"\n", " ", " \n"}, none, []int{0, 1, 0}, []int{1, 2, 3}, 4},
		{[]string{"", "\n", ""}, []string{"\n", " ", " \n"}, api.Ignore{Trail: true}, []int{0, 1, 0}, []int{1, 0, 1}, 2},
		{[]string{"\xff\n", "\ufffd\n"}, []string{"\xfe\n", "\xff\n"}, all, []int{0, 1}, []int{2, 0}, 3},
		{[]string{"a\nb", "a\n"}, []string{"b", "a\nb"}, none, []int{0, 1}, []int{2, 0}, 3},
	} {
		checkClasses(t, c.a, c.b, c.o, c.x, c.y, c.size)
	}
}

func TestClassesOfAPairUnderItsOption(t *testing.T) {
	for _, p := range samples.Alikes() {
		checkClasses(t, []string{p.A}, []string{p.B}, p.Ignored, []int{0}, []int{0}, 1)
		checkClasses(t, []string{p.A, p.B}, nil, p.Ignored, []int{0, 0}, nil, 1)
		checkClasses(t, nil, []string{p.A, p.B}, p.Ignored, nil, []int{0, 0}, 1)
		checkClasses(t, []string{p.A}, []string{p.B}, none, []int{0}, []int{1}, 2)
	}
}

func TestClassesOfAllShortLists(t *testing.T) {
	members := []string{"a\n", "A\n", "a \n", "\ta\n", "a", "\n"}
	for _, o := range samples.Ignores() {
		samples.Lists(members, 2, func(a []string) {
			samples.Lists(members, 2, func(b []string) {
				x, y, n := classesByWords(a, b, o)
				checkClasses(t, a, b, o, x, y, n)
			})
		})
	}
	samples.Lists([]string{"a\n", "A\n", "b\n", "b"}, 4, func(a []string) {
		samples.Lists([]string{"b\n", "a\n", "c\n"}, 3, func(b []string) {
			x, y, n := classesByWords(a, b, none)
			checkClasses(t, a, b, none, x, y, n)
		})
	})
}

func TestClassesAreByANewTable(t *testing.T) {
	for range 3 {
		checkClasses(t, []string{"p\n", "q\n"}, []string{"r\n", "p\n"}, none, []int{0, 1}, []int{2, 0}, 3)
		checkClasses(t, []string{"r\n", "q\n"}, []string{"p\n", "R\n"}, api.Ignore{Case: true}, []int{0, 1}, []int{2, 0}, 3)
	}
}

func TestListsAreLeftAlone(t *testing.T) {
	a, b := []string{"A \n", "b\n", "behind a"}, []string{"\tc\n", "a\n", "behind b"}
	intern.Classes(a[:2], b[:2], all)
	if !slices.Equal(a, []string{"A \n", "b\n", "behind a"}) || !slices.Equal(b, []string{"\tc\n", "a\n", "behind b"}) {
		t.Errorf("the lists have become %q and %q", a, b)
	}
}

func TestClassesAnswersNewMemory(t *testing.T) {
	l := []string{"a\n", "b\n"}
	x, y, _ := intern.Classes(l, l, none)
	v, w, _ := intern.Classes(l, l, none)
	if !samples.Apart(func(i int) int { return i }, x, y, v, w) {
		t.Errorf("the answers have become %v, %v, %v and %v by changes of one another", x, y, v, w)
	}
	checkClasses(t, l, l, none, []int{0, 1}, []int{0, 1}, 2)
}

func TestClassesHasNoLimit(t *testing.T) {
	a := manyLines()
	b := slices.Clone(a)
	slices.Reverse(b)
	x, y, n := intern.Classes(a, append(b, "new\n"), none)
	if len(x) != len(a) || len(y) != len(a)+1 || n != len(a)+1 {
		t.Fatalf("%d and %d numbers of %d classes", len(x), len(y), n)
	}
	for i := range a {
		if x[i] != i || y[i] != len(a)-1-i {
			t.Fatalf("at %d: %d and %d", i, x[i], y[i])
		}
	}
	if y[len(a)] != len(a) {
		t.Errorf("the new line has the number %d, want %d", y[len(a)], len(a))
	}
}

// Promise 4.3.

// checkNumbers says what follows of the numbers that lines got: one just if they count as the same, and no gap.
func checkNumbers(t *testing.T, l []string, numbers []int, size int, o api.Ignore) {
	t.Helper()
	next := 0
	for i, n := range numbers {
		if n < 0 || n > next {
			t.Errorf("%+v: %q: %v: %d where the least new number is %d", o, l, numbers, n, next)
		}
		if n == next {
			next++
		}
		for j := range i {
			if same := canon.Equal(l[i], l[j], o); same != (n == numbers[j]) {
				t.Errorf("%+v: %q and %q count as the same: %v, with the numbers %d and %d", o, l[i], l[j], same, n, numbers[j])
			}
		}
	}
	if size != next {
		t.Errorf("%+v: %q: %v: size %d, want %d", o, l, numbers, size, next)
	}
}

func TestOneNumberJustIfTheSame(t *testing.T) {
	var short []string
	samples.Lines("aA\t ", 2, func(line string) { short = append(short, line) })
	l := slices.Concat(short, strangers(), noLines(), short)
	for _, p := range samples.Alikes() {
		l = append(l, p.A, p.B)
	}
	for _, o := range samples.Ignores() {
		table := intern.New(o)
		var numbers []int
		for _, line := range l {
			numbers = append(numbers, table.Class(line))
		}
		checkNumbers(t, l, numbers, table.Size(), o)

		half := len(l) / 2
		x, y, n := intern.Classes(l[:half], l[half:], o)
		if joined := slices.Concat(x, y); !slices.Equal(joined, numbers) || n != table.Size() {
			t.Errorf("%+v: Classes tells %v of %d, a table %v of %d", o, joined, n, numbers, table.Size())
		}
	}
}

func FuzzAnyClasses(f *testing.F) {
	f.Add("a,b,a", "b,c", 0)
	f.Add("A\n,b\n,a\n", "b\n,c\n", 8)
	f.Add("", " \t\n,\xff,\x00", 63)
	f.Add("a\nb,a \n", "\ta,        a", 16)
	f.Fuzz(func(t *testing.T, s, u string, n int) {
		a, b := strings.Split(s, ","), strings.Split(u, ",")
		o := samples.Ignores()[uint(n)%64]
		x, y, size := classesByWords(a, b, o)
		checkClasses(t, a, b, o, x, y, size)
		p, q, size := intern.Classes(a, b, o)
		checkNumbers(t, slices.Concat(a, b), slices.Concat(p, q), size, o)
	})
}

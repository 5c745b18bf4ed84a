package views_test

import (
	"regexp"
	"slices"
	"sort"
	"strings"
	"testing"

	"redline/api"
	"redline/samples"
	"redline/views"
)

// commandsOf is the five commands for a name: in the order of their signs.
func commandsOf(name string) []string {
	return []string{
		"#ifdef " + name + "\n",
		"#ifndef " + name + "\n",
		"#else /* " + name + " */\n",
		"#endif /* " + name + " */\n",
		"#endif /* ! " + name + " */\n",
	}
}

// checkResolve holds Resolve of a right text against what it must answer, with the name defined and not.
func checkResolve(t *testing.T, text, name, with, without string) {
	t.Helper()
	for _, c := range []struct {
		defined bool
		want    string
	}{{true, with}, {false, without}} {
		s, err := views.Resolve(text, name, c.defined)
		if s != c.want || err != nil {
			t.Errorf("%s for %s, %v: %s, %v, want %s", told(text), told(name), c.defined, told(s), err, told(c.want))
		}
	}
}

// checkFault holds Resolve of a wrong text, or a wrong name, against the fault that it must answer, and nothing else.
func checkFault(t *testing.T, text, name string, at int, code api.Errno) {
	t.Helper()
	for _, defined := range []bool{true, false} {
		s, err := views.Resolve(text, name, defined)
		if s != "" || !samples.IsFault(err, at, code) {
			t.Errorf("%s for %s, %v: %s, %v, want %d: error %d", told(text), told(name), defined, told(s), err, at, code)
		}
	}
}

// What Resolve must answer of any text, by the chapter's words alone: each line is a sign, d, n, e, x and y for the five commands, t for any other, and which rows of signs are right is said by a form.

var (
	rightForm = regexp.MustCompile(`^(t|dt*x|nt*y|nt*et*x)*$`)
	begunForm = regexp.MustCompile(`^(t|dt*x|nt*y|nt*et*x)*(dt*|nt*|nt*et*)?$`)
)

// signsOf is the signs of lines.
func signsOf(l []string, name string) string {
	var signs strings.Builder
	for _, line := range l {
		sign := byte('t')
		for i, command := range commandsOf(name) {
			if strings.TrimSuffix(line, "\n") == strings.TrimSuffix(command, "\n") {
				sign = "dnexy"[i]
			}
		}
		signs.WriteByte(sign)
	}
	return signs.String()
}

// resolveByWords is the lines that count, or the place and the number of the fault.
func resolveByWords(text, name string, defined bool) (string, int, api.Errno) {
	if !nameByWords(name) {
		return "", 0, api.ErrName
	}
	l := slices.Collect(strings.Lines(text))
	signs := signsOf(l, name)
	wrong := sort.Search(len(signs), func(i int) bool { return !begunForm.MatchString(signs[:i+1]) })
	if wrong < len(signs) {
		return "", wrong + 1, api.ErrOrder
	}
	if !rightForm.MatchString(signs) {
		return "", len(l) + 1, api.ErrShort
	}
	var s strings.Builder
	last := byte('x') // the command ahead
	for i, sign := range []byte(signs) {
		switch {
		case sign != 't':
			last = sign
		case last == 'n' && defined, (last == 'd' || last == 'e') && !defined:
		default:
			s.WriteString(l[i])
		}
	}
	return s.String(), 0, api.OK
}

// checkByWords holds Resolve of any text against the chapter's words, and tells whether the text is right.
func checkByWords(t *testing.T, text, name string) bool {
	t.Helper()
	with, at, code := resolveByWords(text, name, true)
	if code != api.OK {
		checkFault(t, text, name, at, code)
		return false
	}
	without, _, _ := resolveByWords(text, name, false)
	checkResolve(t, text, name, with, without)
	return true
}

// Promise 17.3.

func TestResolveOfTheChaptersExamples(t *testing.T) {
	checkResolve(t, "1\n#ifndef N\n2\n3\n#else /* N */\nx\n#endif /* N */\n", "N", "1\nx\n", "1\n2\n3\n")
	checkFault(t, "#endif /* N */\n", "N", 1, api.ErrOrder)
	checkFault(t, "#ifdef N\n", "N", 2, api.ErrShort)
}

func TestResolveOfEdges(t *testing.T) {
	for _, c := range []struct {
		name, text    string
		with, without string
	}{
		{"an empty text", "", "", ""},
		{"one line", "a\n", "a\n", "a\n"},
		{"one line without its feed", "a", "a", "a"},
		{"lines without commands", "a\n\nb\n c \n\t\n", "a\n\nb\n c \n\t\n", "a\n\nb\n c \n\t\n"},
		{"an empty line", "\n", "\n", "\n"},
		{"the last line lacks its feed", "a\nb", "a\nb", "a\nb"},
		{"a part of new lines", "#ifdef N\na\nb\n#endif /* N */\n", "a\nb\n", ""},
		{"a part of old lines", "#ifndef N\na\nb\n#endif /* ! N */\n", "", "a\nb\n"},
		{"a part of both", "#ifndef N\na\nb\n#else /* N */\nc\nd\n#endif /* N */\n", "c\nd\n", "a\nb\n"},
		{"a part of new lines, others around it", "a\n#ifdef N\nb\n#endif /* N */\nc\n", "a\nb\nc\n", "a\nc\n"},
		{"a part of old lines, others around it", "a\n#ifndef N\nb\n#endif /* ! N */\nc\n", "a\nc\n", "a\nb\nc\n"},
		{"a part of both, others around it", "a\n#ifndef N\nb\n#else /* N */\nc\n#endif /* N */\nd\n", "a\nc\nd\n", "a\nb\nd\n"},
		{"others around it, the last one without its feed", "a\n#ifndef N\nb\n#else /* N */\nc\n#endif /* N */\nd", "a\nc\nd", "a\nb\nd"},
		{"a part of no new lines", "#ifdef N\n#endif /* N */\n", "", ""},
		{"a part of no old lines", "#ifndef N\n#endif /* ! N */\n", "", ""},
		{"a part of both without lines", "#ifndef N\n#else /* N */\n#endif /* N */\n", "", ""},
		{"a part of both without old lines", "#ifndef N\n#else /* N */\na\n#endif /* N */\n", "a\n", ""},
		{"a part of both without new lines", "#ifndef N\na\n#else /* N */\n#endif /* N */\n", "", "a\n"},
		{"parts one behind the other", "#ifdef N\na\n#endif /* N */\n#ifndef N\nb\n#endif /* ! N */\n#ifndef N\nc\n#else /* N */\nd\n#endif /* N */\n#ifdef N\ne\n#endif /* N */\n", "a\nd\ne\n", "b\nc\n"},
		{"parts with a line between", "#ifndef N\na\n#else /* N */\nb\n#endif /* N */\nc\n#ifndef N\nd\n#endif /* ! N */\ne\n#ifdef N\nf\n#endif /* N */\n", "b\nc\ne\nf\n", "a\nc\nd\ne\n"},
		{"empty lines within parts", "#ifndef N\n\n#else /* N */\n\n\n#endif /* N */\n", "\n\n", "\n"},
		{"commands for another name", "#ifdef M\na\n#endif /* M */\n", "#ifdef M\na\n#endif /* M */\n", "#ifdef M\na\n#endif /* M */\n"},
		{"commands for another name within a part", "#ifdef N\n#ifdef M\n#endif /* ! M */\n#endif /* N */\n", "#ifdef M\n#endif /* ! M */\n", ""},
		{"a part within one for another name", "#ifndef M\n#ifdef N\na\n#endif /* N */\n#else /* M */\n", "#ifndef M\na\n#else /* M */\n", "#ifndef M\n#else /* M */\n"},
		{"a part crosses one for another name", "#ifndef M\n#ifdef N\n#endif /* ! M */\n#endif /* N */\n", "#ifndef M\n#endif /* ! M */\n", "#ifndef M\n"},
		{"commands for other names alone", "#else /* n */\n#endif /* NN */\n#endif /* ! _N */\n#ifdef N1\n#ifndef MN\n", "#else /* n */\n#endif /* NN */\n#endif /* ! _N */\n#ifdef N1\n#ifndef MN\n", "#else /* n */\n#endif /* NN */\n#endif /* ! _N */\n#ifdef N1\n#ifndef MN\n"},
		{"the last command lacks its feed, behind new lines", "#ifdef N\na\n#endif /* N */", "a\n", ""},
		{"the last command lacks its feed, behind old lines", "#ifndef N\na\n#endif /* ! N */", "", "a\n"},
		{"the last command lacks its feed, behind both", "#ifndef N\na\n#else /* N */\nb\n#endif /* N */", "b\n", "a\n"},
		{"carriage returns", "a\r\n#ifdef N\nb\r\n#endif /* N */\n\r\n", "a\r\nb\r\n\r\n", "a\r\n\r\n"},
		{"bytes of all kinds", "\x00\n#ifdef N\n\xff\xfe\n#endif /* N */\nä\v\f\n", "\x00\n\xff\xfe\nä\v\f\n", "\x00\nä\v\f\n"},
	} {
		t.Run(c.name, func(t *testing.T) {
			checkResolve(t, c.text, "N", c.with, c.without)
			checkByWords(t, c.text, "N")
		})
	}
}

// Each command where it may not stand, and texts that end too early.
func TestResolveOfWrongTexts(t *testing.T) {
	for _, c := range []struct {
		name, text string
		at         int
		code       api.Errno
	}{
		{"#ifdef behind #ifdef", "#ifdef N\n#ifdef N\n#endif /* N */\n", 2, api.ErrOrder},
		{"#ifndef behind #ifdef", "#ifdef N\na\n#ifndef N\n#endif /* N */\n", 3, api.ErrOrder},
		{"#ifdef behind #ifndef", "#ifndef N\na\n#ifdef N\n#endif /* ! N */\n", 3, api.ErrOrder},
		{"#ifndef behind #ifndef", "#ifndef N\n#ifndef N\n#endif /* ! N */\n", 2, api.ErrOrder},
		{"#ifdef behind #else", "#ifndef N\n#else /* N */\n#ifdef N\n#endif /* N */\n", 3, api.ErrOrder},
		{"#ifndef behind #else", "#ifndef N\n#else /* N */\na\n#ifndef N\n#endif /* N */\n", 4, api.ErrOrder},
		{"#else outside", "#else /* N */\n", 1, api.ErrOrder},
		{"#else outside, behind lines", "a\n\n#else /* N */\n", 3, api.ErrOrder},
		{"#else outside, behind a part", "#ifndef N\n#endif /* ! N */\n#else /* N */\n", 3, api.ErrOrder},
		{"#else outside, behind a part of both", "#ifndef N\n#else /* N */\n#endif /* N */\n#else /* N */\n", 4, api.ErrOrder},
		{"#else behind #ifdef", "#ifdef N\na\n#else /* N */\nb\n#endif /* N */\n", 3, api.ErrOrder},
		{"#else behind #else", "#ifndef N\n#else /* N */\n#else /* N */\n#endif /* N */\n", 3, api.ErrOrder},
		{"#endif outside", "#endif /* N */\n", 1, api.ErrOrder},
		{"#endif with ! outside", "#endif /* ! N */\n", 1, api.ErrOrder},
		{"#endif outside, behind lines", "a\nb\n#endif /* N */\n", 3, api.ErrOrder},
		{"#endif with ! outside, behind lines", "a\nb\n#endif /* ! N */\n", 3, api.ErrOrder},
		{"#endif outside, behind a part", "#ifdef N\n#endif /* N */\n#endif /* N */\n", 3, api.ErrOrder},
		{"#endif with ! outside, behind a part", "#ifndef N\n#endif /* ! N */\n#endif /* ! N */\n", 3, api.ErrOrder},
		{"#endif with ! behind #ifdef", "#ifdef N\n#endif /* ! N */\n", 2, api.ErrOrder},
		{"#endif behind #ifndef", "#ifndef N\n#endif /* N */\n", 2, api.ErrOrder},
		{"#endif with ! behind #else", "#ifndef N\n#else /* N */\n#endif /* ! N */\n", 3, api.ErrOrder},
		{"it ends behind #ifdef", "#ifdef N\n", 2, api.ErrShort},
		{"it ends behind #ifndef", "#ifndef N\n", 2, api.ErrShort},
		{"it ends behind #else", "#ifndef N\n#else /* N */\n", 3, api.ErrShort},
		{"it ends behind lines behind #ifdef", "a\n#ifdef N\nb\nc\n", 5, api.ErrShort},
		{"it ends behind lines behind #ifndef", "a\n#ifndef N\nb\n", 4, api.ErrShort},
		{"it ends behind lines behind #else", "a\n#ifndef N\nb\n#else /* N */\nc\n\n", 7, api.ErrShort},
		{"it ends behind a line without its feed", "#ifdef N\na", 3, api.ErrShort},
		{"it ends behind a second part", "#ifdef N\n#endif /* N */\n#ifndef N\n", 4, api.ErrShort},
		{"it ends with another name's #endif", "#ifdef N\n#endif /* M */\n", 3, api.ErrShort},
		{"it ends with what is no #endif", "#ifdef N\n#endif\n", 3, api.ErrShort},
		{"#ifdef lacks its feed", "#ifdef N", 2, api.ErrShort},
		{"#ifndef lacks its feed", "a\n#ifndef N", 3, api.ErrShort},
		{"#else lacks its feed", "#ifndef N\n#else /* N */", 3, api.ErrShort},
		{"#else outside lacks its feed", "a\n#else /* N */", 2, api.ErrOrder},
		{"#endif outside lacks its feed", "#endif /* N */", 1, api.ErrOrder},
		{"#endif with ! outside lacks its feed", "#endif /* ! N */", 1, api.ErrOrder},
		{"#endif of the other kind lacks its feed", "#ifdef N\n#endif /* ! N */", 2, api.ErrOrder},
		{"#ifdef within lacks its feed", "#ifdef N\n#ifdef N", 2, api.ErrOrder},
		{"two wrong lines", "#else /* N */\n#endif /* N */\n", 1, api.ErrOrder},
		{"two wrong lines, lines between", "a\n#ifdef N\n#else /* N */\nb\n#ifndef N\n", 3, api.ErrOrder},
		{"two wrong lines, right parts around", "#ifdef N\n#endif /* N */\n#endif /* N */\n#ifdef N\n#endif /* N */\n#endif /* N */\n", 3, api.ErrOrder},
		{"a wrong line, and it ends too early", "#ifdef N\n#ifdef N\n", 2, api.ErrOrder},
		{"a wrong line, then it ends too early", "#endif /* N */\n#ifdef N\n", 1, api.ErrOrder},
		{"of the other kind, then of the right one", "#ifdef N\n#endif /* ! N */\n#endif /* N */\n", 2, api.ErrOrder},
	} {
		t.Run(c.name, func(t *testing.T) {
			checkFault(t, c.text, "N", c.at, c.code)
			checkByWords(t, c.text, "N")
		})
	}
}

// A name that is none is told ahead of all that is wrong with the text.
func TestResolveOfNames(t *testing.T) {
	for _, name := range wrongNames() {
		for _, text := range []string{"", "a\n", "#ifdef N\n", "#endif /* N */\n", "#ifdef " + name + "\n", "#endif /* " + name + " */\n", "#ifdef " + name + "\na\n#endif /* " + name + " */\n"} {
			checkFault(t, text, name, 0, api.ErrName)
		}
	}
	for _, name := range rightNames() {
		c := commandsOf(name)
		checkResolve(t, "", name, "", "")
		checkResolve(t, "a\n"+c[0]+"b\n"+c[3]+c[1]+"c\n"+c[4]+c[1]+"d\n"+c[2]+"e\n"+c[3]+"f", name, "a\nb\ne\nf", "a\nc\nd\nf")
		checkFault(t, "a\n"+c[0]+c[2], name, 3, api.ErrOrder)
		checkFault(t, c[3], name, 1, api.ErrOrder)
		checkFault(t, c[1], name, 2, api.ErrShort)
	}
	for c := range 256 {
		b := string([]byte{byte(c)})
		for _, name := range []string{b, "N" + b, b + "N"} {
			checkByWords(t, "a\n#ifdef "+name+"\nb\n#endif /* "+name+" */\nc", name)
			checkByWords(t, "#ifndef "+name+"\n", name)
		}
	}
	for n := range api.MaxName + 10 {
		name := strings.Repeat("N", n)
		checkByWords(t, "#ifdef "+name+"\nb\n#endif /* "+name+" */\nc", name)
		checkByWords(t, "#ifdef "+name+"N\nb\n#endif /* "+name+"N */\nc", name)
	}
}

// nearly is lines that look like commands for N, and are none.
func nearly() []string {
	l := []string{
		"#", "#if", "#if N", "#ifdef", "#ifndef", "#else", "#endif", "#elif N", "#define N", "#undef N", "#if defined(N)", "N", "/* N */", "/* ! N */", "! N",
		"#endif N", "#endif ! N", "#else N", "#endif // N", "#ifdef /* N */", "#ifndef /* N */", "#ifdef ! N", "#ifndef ! N", "#else /* ! N */", "#endif /* not N */", "#endif /* ! ! N */",
		"#IFDEF N", "#Ifndef N", "#ELSE /* N */", "#ENDIF /* N */", "#ifdef n", "#ifndef n", "#else /* n */", "#endif /* n */", "#endif /* ! n */",
	}
	for _, command := range commandsOf("N") {
		command = strings.TrimSuffix(command, "\n")
		for _, more := range []string{" ", "\t", "\r", "\x00", "x", "N", "_", "1", " x", " /* N */", "*/", ";"} {
			l = append(l, command+more, more+command)
		}
		for i, c := range []byte(command) {
			l = append(l, command[:i]+command[i+1:])
			if c == ' ' {
				l = append(l, command[:i]+"  "+command[i+1:], command[:i]+"\t"+command[i+1:], command[:i]+"\u00a0"+command[i+1:])
			}
		}
		l = append(l, strings.ReplaceAll(command, " ", ""), strings.ReplaceAll(command, "N", "M"), strings.ReplaceAll(command, "N", "NN"), strings.ReplaceAll(command, "N", ""))
	}
	// A byte less of one command may be another one.
	return slices.DeleteFunc(l, func(line string) bool { return slices.Contains(commandsOf("N"), line+"\n") })
}

func TestResolveOfWhatIsNoCommand(t *testing.T) {
	for _, line := range nearly() {
		if signsOf([]string{line}, "N") != "t" {
			t.Fatalf("%q is a command", line)
		}
		fed := line + "\n"
		checkResolve(t, fed, "N", fed, fed)
		checkResolve(t, line, "N", line, line)
		checkResolve(t, fed+fed+line, "N", fed+fed+line, fed+fed+line)
		checkResolve(t, "#ifdef N\n"+fed+"#endif /* N */\n"+line, "N", fed+line, line)
		checkResolve(t, "#ifndef N\n"+fed+"#endif /* ! N */\n"+line, "N", line, fed+line)
		checkResolve(t, "#ifndef N\n"+fed+"a\n#else /* N */\nb\n"+fed+"#endif /* N */\n", "N", "b\n"+fed, fed+"a\n")
		checkFault(t, "#ifdef N\n"+line, "N", 3, api.ErrShort)
		checkFault(t, "#ifndef N\n"+fed, "N", 3, api.ErrShort)
		checkFault(t, "#ifndef N\n#else /* N */\n"+fed, "N", 4, api.ErrShort)
	}
}

// Commands, one for another name, and other lines in all rows, the last one with and without its line feed.
func TestResolveOfAllShortRowsOfLines(t *testing.T) {
	kinds := append(commandsOf("N"), "x\n", "#endif /* M */\n")
	right := 0
	samples.Lists(kinds, 6, func(l []string) {
		text := strings.Join(l, "")
		if checkByWords(t, text, "N") {
			right++
		}
		checkByWords(t, strings.TrimSuffix(text, "\n"), "N")
	})
	if right < 500 {
		t.Errorf("only %d of them are right", right)
	}
}

// Longer rows of commands alone, with as many lines as may show where each one belongs.
func TestResolveOfAllRowsOfCommands(t *testing.T) {
	right := 0
	samples.Lists(commandsOf("_"), 7, func(l []string) {
		text := "0\n"
		for i, command := range l {
			text += command + string(rune('a'+i)) + "\n"
		}
		if checkByWords(t, text, "_") {
			right++
		}
	})
	if right < 30 {
		t.Errorf("only %d of them are right", right)
	}
}

func TestResolveOfAllShortTexts(t *testing.T) {
	samples.Texts("#N \n", 7, func(s string) {
		checkResolve(t, s, "N", s, s)
	})
	samples.Texts("N \n#", 4, func(s string) {
		for _, ahead := range []string{"#ifdef", "#ifdef ", "#ifndef ", "#ifndef N\n#else /* ", "#ifdef N\n", "#ifdef N\na\n#endif /* "} {
			for _, behind := range []string{"", "\n", " */\n", " */\nb", "\n#endif /* N */\n", "\n#endif /* ! N */"} {
				checkByWords(t, ahead+s+behind, "N")
			}
		}
	})
}

// aText has all that a text may have.
const aText = "a\n#ifdef N\nb\n#endif /* N */\n\n#ifndef N\nc\nd\n#endif /* ! N */\n#ifdef M\n#ifndef N\ne\n#else /* N */\nf\n#endif /* N */\n#endif /* M */\ng"

func TestResolveOfTextsThatEndBehindEachByte(t *testing.T) {
	checkResolve(t, aText, "N", "a\nb\n\n#ifdef M\nf\n#endif /* M */\ng", "a\n\nc\nd\n#ifdef M\ne\n#endif /* M */\ng")
	for i := range len(aText) + 1 {
		for _, text := range []string{aText[:i], aText[:i] + "\n", aText[i:], aText[i:] + "\n", "#ifdef N\n" + aText[i:], "#ifndef N\n" + aText[i:], "#ifndef N\n#else /* N */\n" + aText[i:]} {
			checkByWords(t, text, "N")
			checkByWords(t, text, "M")
		}
	}
}

// Another byte at each place, a byte more, a byte less, two lines exchanged, one left out or twice there.
func TestResolveOfTextsThatAreNearlyRight(t *testing.T) {
	samples.Nearly(aText, func(text string) { checkByWords(t, text, "N") })
}

// More bytes than may be read, more lines than may be compared.
func TestResolveHasNoLimit(t *testing.T) {
	long := strings.Repeat("x", 4*api.MaxText)
	checkResolve(t, long, "N", long, long)
	checkResolve(t, "#ifndef N\n"+long+"\n#else /* N */\ny\n#endif /* N */\n"+long, "N", "y\n"+long, long+"\n"+long)
	checkFault(t, "#ifndef N\n"+long, "N", 3, api.ErrShort)
	many := strings.Repeat("x\n", 2*api.MaxText)
	checkResolve(t, many, "N", many, many)
	checkResolve(t, "#ifdef N\n"+many+"#endif /* N */\n", "N", many, "")
	checkFault(t, "#ifdef N\n"+many, "N", 2*api.MaxText+2, api.ErrShort)
	checkFault(t, many+"#else /* N */\n", "N", 2*api.MaxText+1, api.ErrOrder)
	const part = "#ifndef N\na\n#else /* N */\nb\n#endif /* N */\nc\n"
	parts := strings.Repeat(part, 1<<16)
	checkResolve(t, parts, "N", strings.Repeat("b\nc\n", 1<<16), strings.Repeat("a\nc\n", 1<<16))
	checkFault(t, parts+"#endif /* N */\n", "N", 6<<16+1, api.ErrOrder)
	checkFault(t, parts+"#ifndef N", "N", 6<<16+2, api.ErrShort)
}

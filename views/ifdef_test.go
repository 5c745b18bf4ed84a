package views_test

import (
	"slices"
	"strings"
	"testing"

	"redline/api"
	"redline/samples"
	"redline/views"
)

// checkIfdef holds Ifdef against what it must answer.
func checkIfdef(t *testing.T, l []api.Change, a, b []string, name, want string, code api.Errno) {
	t.Helper()
	text, err := views.Ifdef(l, a, b, name)
	if text != want || err != code {
		t.Errorf("%s of %s and %s, %s: %s, %d, want %s, %d", told(l), told(a), told(b), told(name), told(text), err, told(want), code)
	}
}

// ifdefByWords is the one text of what signs say, sign by sign: the lines of a change are gathered, and told where it ends.
func ifdefByWords(signs string, a, b []string, name string) string {
	var s strings.Builder
	gone, come := "", ""
	tell := func() {
		switch {
		case gone != "" && come != "":
			s.WriteString("#ifndef " + name + "\n" + gone + "#else /* " + name + " */\n" + come + "#endif /* " + name + " */\n")
		case gone != "":
			s.WriteString("#ifndef " + name + "\n" + gone + "#endif /* ! " + name + " */\n")
		case come != "":
			s.WriteString("#ifdef " + name + "\n" + come + "#endif /* " + name + " */\n")
		}
		gone, come = "", ""
	}
	for _, sign := range signs {
		switch sign {
		case '-':
			gone, a = gone+strings.TrimSuffix(a[0], "\n")+"\n", a[1:]
		case '+':
			come, b = come+strings.TrimSuffix(b[0], "\n")+"\n", b[1:]
		default:
			tell()
			s.WriteString(strings.TrimSuffix(a[0], "\n") + "\n")
			a, b = a[1:], b[1:]
		}
	}
	tell()
	return s.String()
}

// nameByWords tells whether s is a name, by the chapter's words alone.
func nameByWords(s string) bool {
	const letters = "ABCDEFGHIJKLMNOPQRSTUVWXYZabcdefghijklmnopqrstuvwxyz_"
	return len(s) >= 1 && len(s) <= 64 && strings.Trim(s, letters+"0123456789") == "" && strings.IndexByte(letters, s[0]) >= 0
}

// rightNames are names of all kinds.
func rightNames() []string {
	return []string{
		"N", "n", "A", "Z", "a", "z", "_", "__", "_N", "_1", "_9", "N1", "N0", "n9_", "A1b2_C3", "NAME_OF_SEVERAL_WORDS", "ifdef", "endif", "else", "defined",
		strings.Repeat("x", api.MaxName), strings.Repeat("_", api.MaxName), "x" + strings.Repeat("9", api.MaxName-1), strings.Repeat("x", api.MaxName-1),
	}
}

// wrongNames are texts that are no names, also too long ones.
func wrongNames() []string {
	return []string{
		"", " ", "  ", " N", "N ", "N M", "\t", "N\t", "\n", "N\n", "\nN", "N\r", "\x00", "N\x00", "N\x00M",
		"0", "1", "9", "1N", "0_", "9N9", "12", "-", "-1", "+", "N-M", "N.M", ".", "N+", "N,M", "N:", "N/M", "N@M", "@", "[", "N[", "`", "N`", "{", "N{", "!", "! N", "!N", "*", "N */", "/* N", "#", "#ifdef N", `"N"`, "'N'", `N\`, "$N", "N$",
		"ä", "Nä", "N\xe4", "\xff", "N\x80", "\u00b2", "N\uff11", "\u0391", "N\u0661", "\u212a", "\u017f",
		strings.Repeat("x", api.MaxName+1), strings.Repeat("x", 1000), strings.Repeat("_", api.MaxName) + "1", strings.Repeat("x", api.MaxName) + " ", strings.Repeat("x", api.MaxName-1) + " ", strings.Repeat("x", api.MaxName-1) + "-", "1" + strings.Repeat("x", api.MaxName-1), strings.Repeat("x", api.MaxName) + "\n",
	}
}

// Promise 17.2.

func TestIfdefOfTheChaptersExample(t *testing.T) {
	a, b := []string{"1\n", "2\n", "3\n"}, []string{"1\n", "x\n"}
	checkIfdef(t, rows{{1, 2, 1, 1}}.Changes(), a, b, "N", "1\n#ifndef N\n2\n3\n#else /* N */\nx\n#endif /* N */\n", api.OK)
}

// ifdefCase is what is done with the lines of two texts, which are those that samples.Pair makes, and the one text of them for the name N.
type ifdefCase struct {
	name  string
	signs string
	want  string
}

// ifdefCases are the edges of where changes may stand, and of how many lines they have.
func ifdefCases() []ifdefCase {
	const (
		ifdef    = "#ifdef N\n"
		ifndef   = "#ifndef N\n"
		other    = "#else /* N */\n"
		endif    = "#endif /* N */\n"
		endifNot = "#endif /* ! N */\n"
	)
	return []ifdefCase{
		{"no lines at all", "", ""},
		{"one is kept", "=", "a0\n"},
		{"all are kept", "===", "a0\na1\na2\n"},
		{"the only one goes", "-", ifndef + "a0\n" + endifNot},
		{"all go", "--", ifndef + "a0\na1\n" + endifNot},
		{"the only one comes", "+", ifdef + "b0\n" + endif},
		{"all come", "++", ifdef + "b0\nb1\n" + endif},
		{"one for one", "-+", ifndef + "a0\n" + other + "b0\n" + endif},
		{"two for one", "--+", ifndef + "a0\na1\n" + other + "b0\n" + endif},
		{"one for two", "-++", ifndef + "a0\n" + other + "b0\nb1\n" + endif},
		{"one goes at the front", "-==", ifndef + "a0\n" + endifNot + "a1\na2\n"},
		{"one goes in the middle", "=-=", "a0\n" + ifndef + "a1\n" + endifNot + "a2\n"},
		{"one goes at the end", "==-", "a0\na1\n" + ifndef + "a2\n" + endifNot},
		{"one comes at the front", "+==", ifdef + "b0\n" + endif + "a0\na1\n"},
		{"one comes in the middle", "=+=", "a0\n" + ifdef + "b1\n" + endif + "a1\n"},
		{"one comes at the end", "==+", "a0\na1\n" + ifdef + "b2\n" + endif},
		{"one for one at the front", "-+==", ifndef + "a0\n" + other + "b0\n" + endif + "a1\na2\n"},
		{"one for one in the middle", "=-+=", "a0\n" + ifndef + "a1\n" + other + "b1\n" + endif + "a2\n"},
		{"one for one at the end", "==-+", "a0\na1\n" + ifndef + "a2\n" + other + "b2\n" + endif},
		{"one goes, behind it one comes", "-=+", ifndef + "a0\n" + endifNot + "a1\n" + ifdef + "b1\n" + endif},
		{"one comes, behind it one goes", "+=-", ifdef + "b0\n" + endif + "a0\n" + ifndef + "a1\n" + endifNot},
		{"one goes, behind it another one", "-=-", ifndef + "a0\n" + endifNot + "a1\n" + ifndef + "a2\n" + endifNot},
		{"one comes, behind it another one", "+=+", ifdef + "b0\n" + endif + "a0\n" + ifdef + "b2\n" + endif},
		{"one for one, behind it one for one", "-+=-+", ifndef + "a0\n" + other + "b0\n" + endif + "a1\n" + ifndef + "a2\n" + other + "b2\n" + endif},
		{"one for one, behind it one goes", "-+=-", ifndef + "a0\n" + other + "b0\n" + endif + "a1\n" + ifndef + "a2\n" + endifNot},
		{"one goes, behind it one for one", "-=-+", ifndef + "a0\n" + endifNot + "a1\n" + ifndef + "a2\n" + other + "b1\n" + endif},
		{"one for one, behind it one comes", "-+=+", ifndef + "a0\n" + other + "b0\n" + endif + "a1\n" + ifdef + "b2\n" + endif},
		{"one comes, behind it one for one", "+=-+", ifdef + "b0\n" + endif + "a0\n" + ifndef + "a1\n" + other + "b2\n" + endif},
		{"all kinds", "=--==-++=++=", "a0\n" + ifndef + "a1\na2\n" + endifNot + "a3\na4\n" + ifndef + "a5\n" + other + "b3\nb4\n" + endif + "a6\n" + ifdef + "b6\nb7\n" + endif + "a7\n"},
	}
}

// Lines that lack their line feed, kept, old and new ones, have it there.
func TestIfdefOfEdges(t *testing.T) {
	for _, c := range ifdefCases() {
		t.Run(c.name, func(t *testing.T) {
			a, b := samples.Pair(c.signs)
			l := samples.Script(c.signs)
			for _, a := range [][]string{a, samples.Unfed(a)} {
				for _, b := range [][]string{b, samples.Unfed(b)} {
					checkIfdef(t, l, a, b, "N", c.want, api.OK)
					if want := ifdefByWords(c.signs, a, b, "N"); want != c.want {
						t.Errorf("by words: %q", want)
					}
				}
			}
		})
	}
}

func TestIfdefOfNames(t *testing.T) {
	a, b := samples.Pair("=-+=-=+")
	l := samples.Script("=-+=-=+")
	for _, name := range rightNames() {
		if !nameByWords(name) {
			t.Fatalf("%q is no name", name)
		}
		checkIfdef(t, l, a, b, name, ifdefByWords("=-+=-=+", a, b, name), api.OK)
		checkIfdef(t, nil, nil, nil, name, "", api.OK)
	}
	for _, name := range wrongNames() {
		if nameByWords(name) {
			t.Fatalf("%q is a name", name)
		}
		checkIfdef(t, l, a, b, name, "", api.ErrName)
		checkIfdef(t, nil, a[:1], b[:1], name, "", api.ErrName)
		checkIfdef(t, nil, nil, nil, name, "", api.ErrName)
	}
	for n := range api.MaxName + 10 {
		name := strings.Repeat("N", n)
		if n >= 1 && n <= api.MaxName {
			checkIfdef(t, l, a, b, name, ifdefByWords("=-+=-=+", a, b, name), api.OK)
		} else {
			checkIfdef(t, l, a, b, name, "", api.ErrName)
		}
	}
}

// Each byte alone, in front, within and at the end.
func TestIfdefOfNamesOfAllBytes(t *testing.T) {
	for c := range 256 {
		for _, frame := range [][2]string{{"", ""}, {"", "N"}, {"N", "N"}, {"N", ""}, {"_", "_"}, {"", "1"}} {
			name := frame[0] + string([]byte{byte(c)}) + frame[1]
			if nameByWords(name) {
				checkIfdef(t, samples.Script("+"), nil, []string{"b\n"}, name, "#ifdef "+name+"\nb\n#endif /* "+name+" */\n", api.OK)
			} else {
				checkIfdef(t, samples.Script("+"), nil, []string{"b\n"}, name, "", api.ErrName)
			}
		}
	}
}

// Lines are laid as they are: they may be commands, or no lines at all.
func TestIfdefOfAnyLines(t *testing.T) {
	odd := append(commandsOf("N"), "", "\n", "\n\n", "a\nb", "a\nb\n", "\na", "a\r\n", "a\r", " \n", "a \n", "\ta\n", "\x00\n", "\xff\xfe", "#ifdef M\n", "#else\n")
	for c := range 256 {
		odd = append(odd, string([]byte{byte(c)}), string([]byte{byte(c), '\n'}))
	}
	for _, line := range odd {
		whole := strings.TrimSuffix(line, "\n") + "\n"
		checkIfdef(t, nil, []string{line}, []string{line}, "N", whole, api.OK)
		checkIfdef(t, nil, []string{line}, []string{"b\n"}, "N", whole, api.OK)
		checkIfdef(t, samples.Script("-"), []string{line}, nil, "N", "#ifndef N\n"+whole+"#endif /* ! N */\n", api.OK)
		checkIfdef(t, samples.Script("+"), nil, []string{line}, "N", "#ifdef N\n"+whole+"#endif /* N */\n", api.OK)
		checkIfdef(t, samples.Script("-+"), []string{line}, []string{line}, "N", "#ifndef N\n"+whole+"#else /* N */\n"+whole+"#endif /* N */\n", api.OK)
		checkIfdef(t, samples.Script("=--=+="), slices.Repeat([]string{line}, 5), slices.Repeat([]string{line}, 4), "N", whole+"#ifndef N\n"+whole+whole+"#endif /* ! N */\n"+whole+"#ifdef N\n"+whole+"#endif /* N */\n"+whole, api.OK)
	}
}

func TestIfdefOfAllShortScripts(t *testing.T) {
	samples.Texts("=-+", 8, func(signs string) {
		l := samples.Script(signs)
		a, b := samples.Pair(signs)
		checkIfdef(t, l, a, samples.Unfed(b), "N", ifdefByWords(signs, a, b, "N"), api.OK)
		checkIfdef(t, l, samples.Unfed(a), b, "_a1", ifdefByWords(signs, a, b, "_a1"), api.OK)
		checkIfdef(t, l, a, b, "1a", "", api.ErrName)
	})
}

// More changes and lines than may be compared, longer lines than may be read.
func TestIfdefHasNoLimit(t *testing.T) {
	for _, signs := range []string{
		strings.Repeat("-=+=-+=", api.MaxHunks/2),
		strings.Repeat("-", 3*api.MaxLines) + strings.Repeat("+", 2*api.MaxLines),
		strings.Repeat("=", 5*api.MaxLines),
	} {
		a, b := samples.Pair(signs)
		checkIfdef(t, samples.Script(signs), a, b, "N", ifdefByWords(signs, a, b, "N"), api.OK)
	}
	long := strings.Repeat("x", 2*api.MaxText)
	checkIfdef(t, samples.Script("-+"), []string{long + "\n"}, []string{long}, "N", "#ifndef N\n"+long+"\n#else /* N */\n"+long+"\n#endif /* N */\n", api.OK)
}

// A script that is not right is told ahead of a name that is none.
func TestIfdefOfWrongScripts(t *testing.T) {
	for _, name := range append(wrongNames(), rightNames()...) {
		wrongScripts(func(l []api.Change, a, b []string) { checkIfdef(t, l, a, b, name, "", api.ErrScript) })
	}
	checkIfdef(t, []api.Change{}, []string{}, []string{}, "N", "", api.OK)
}

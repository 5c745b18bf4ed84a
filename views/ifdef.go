package views

import (
	"strings"

	"redline/api"
	"redline/edits"
	"redline/lines"
)

// commands are the lines, without their line feeds, that stand around what differs, for one name.
type commands struct {
	ifdef     string // ahead of new lines alone
	ifndef    string // ahead of old lines
	otherwise string // between old lines and new ones
	endif     string // behind new lines
	endifNot  string // behind old lines alone
}

// commandsFor is the commands for a name.
func commandsFor(name string) commands {
	return commands{
		ifdef:     "#ifdef " + name,
		ifndef:    "#ifndef " + name,
		otherwise: "#else /* " + name + " */",
		endif:     "#endif /* " + name + " */",
		endifNot:  "#endif /* ! " + name + " */",
	}
}

// Ifdef is two texts in one.
func Ifdef(l []api.Change, a, b []string, name string) (string, api.Errno) {
	if err := edits.Check(l, len(a), len(b)); err != api.OK {
		return "", err
	}
	if !isName(name) {
		return "", api.ErrName
	}
	var text strings.Builder
	lay := func(l ...string) {
		for _, line := range l {
			bare, _ := lines.Bare(line)
			text.WriteString(bare)
			text.WriteString(feed)
		}
	}
	c := commandsFor(name)
	kept := func(old, _ []string) { lay(old...) }
	changed := func(old, made []string) {
		switch {
		case len(made) == 0:
			lay(c.ifndef)
			lay(old...)
			lay(c.endifNot)
		case len(old) == 0:
			lay(c.ifdef)
			lay(made...)
			lay(c.endif)
		default:
			lay(c.ifndef)
			lay(old...)
			lay(c.otherwise)
			lay(made...)
			lay(c.endif)
		}
	}
	through(l, a, b, kept, changed)
	return text.String(), api.OK
}

// isName tells whether a compiler could know something by that name, which is not too long.
func isName(name string) bool {
	if name == "" || len(name) > api.MaxName || isDigit(name[0]) {
		return false
	}
	for i := range len(name) {
		if c := name[i]; !isLetter(c) && !isDigit(c) && c != '_' {
			return false
		}
	}
	return true
}

// isDigit tells whether a byte is a decimal digit.
func isDigit(c byte) bool { return '0' <= c && c <= '9' }

// isLetter tells whether a byte is a letter from A to Z, or a small one.
func isLetter(c byte) bool { return 'A' <= c && c <= 'Z' || 'a' <= c && c <= 'z' }

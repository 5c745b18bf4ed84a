package ctxfmt

import (
	"strings"

	"redline/api"
	"redline/num"
)

const (
	noName = "/dev/null" // what stands for a name that is empty
	quote  = `"`
)

// nameText is a name as it stands in a patch.
func nameText(name string) string {
	switch {
	case name == "":
		return noName
	case name == noName || strings.ContainsFunc(name, isOdd):
		return num.Quote(name)
	}
	return name
}

// isOdd tells whether a name with that letter does not stand as it is. Letters of several bytes, and bytes that are none, are all above 126.
func isOdd(r rune) bool { return r < 33 || r > 126 || r == '"' }

// nameFrom is the name that stands as s in a patch, and whether there is one that is not too long.
func nameFrom(s string) (string, bool) {
	name := s
	switch {
	case s == noName:
		name = ""
	case strings.HasPrefix(s, quote):
		name, _, _ = num.Unquote(s)
	}
	// Each name stands in one way alone: so this finds whatever s may have in another one, or behind it.
	return name, len(name) <= api.MaxName && nameText(name) == s
}

// Package patchtext is what the forms of patches share: how names, lines, ranges and changes stand in them, and which patches are right. It is no layer of its own, and calls num and hunks, as each of these forms may.
package patchtext

import (
	"strings"

	"redline/api"
	"redline/hunks"
	"redline/num"
)

const (
	// Feed ends each line of a patch.
	Feed = "\n"

	// Mark is the line that stands behind one that lacks its line feed.
	Mark = `\ No newline at end of file` + Feed

	noName = "/dev/null" // what stands for a name that is empty
	quote  = `"`
)

// Name is a name as it stands in a patch.
func Name(name string) string {
	switch {
	case name == "":
		return noName
	case name == noName || strings.ContainsFunc(name, isOdd):
		return num.Quote(name)
	}
	return name
}

// isOdd tells whether a name with that letter does not stand as it is. Letters of several bytes, and bytes that are none, are all above 126.
func isOdd(r rune) bool { return r < 33 || r > 126 || r == '"' }

// Named is the name that stands as s in a patch, or ErrName, if there is none, or one that is too long.
func Named(s string) (string, api.Errno) {
	name := s
	switch {
	case s == noName:
		name = ""
	case strings.HasPrefix(s, quote):
		name, _, _ = num.Unquote(s)
	}
	// Each name stands in one way alone: so this finds whatever s may have in another one, or behind it.
	if len(name) > api.MaxName || Name(name) != s {
		return "", api.ErrName
	}
	return name, api.OK
}

// Line is a line of a file as it stands in a patch, behind its sign.
func Line(line string) string {
	if strings.HasSuffix(line, Feed) {
		return line
	}
	return line + Feed + Mark
}

// Check tells what is wrong with a patch, or OK.
func Check(p api.Patch) api.Errno {
	if len(p.Old) > api.MaxName || len(p.New) > api.MaxName {
		return api.ErrName
	}
	if len(p.Hunks) > api.MaxHunks {
		return api.ErrLong
	}
	for _, h := range p.Hunks {
		if err := hunks.Check(h); err != api.OK {
			return err
		}
	}
	return api.OK
}

package views

import (
	"strings"

	"redline/api"
	"redline/lines"
)

// part is where in a text a line stands, of what differs or outside.
type part int

const (
	outside part = iota // both texts have the line
	inOld               // behind #ifndef
	inNew               // behind #ifdef or #else: behind both the same may follow
)

// counts tells whether the lines there that are no commands count.
func (p part) counts(defined bool) bool {
	return p == outside || (p == inNew) == defined
}

// Resolve is one of the texts out of such a one.
func Resolve(text, name string, defined bool) (string, error) {
	if !isName(name) {
		return "", &api.Fault{Err: api.ErrName}
	}
	var counted strings.Builder
	c, in := commandsFor(name), outside
	// take passes over a line, and tells whether it may stand there.
	take := func(line string) bool {
		bare, _ := lines.Bare(line)
		if !c.has(bare) {
			if in.counts(defined) {
				counted.WriteString(line)
			}
			return true
		}
		next, right := c.behind(in, bare)
		in = next
		return right
	}
	all := lines.Split(text)
	for i, line := range all {
		if !take(line) {
			return "", &api.Fault{At: i + 1, Err: api.ErrOrder}
		}
	}
	if in != outside {
		return "", &api.Fault{At: len(all) + 1, Err: api.ErrShort}
	}
	return counted.String(), nil
}

// has tells whether a line without its line feed is one of the commands.
func (c commands) has(line string) bool {
	switch line {
	case c.ifdef, c.ifndef, c.otherwise, c.endif, c.endifNot:
		return true
	}
	return false
}

// behind is where the lines behind a command stand, and whether the command may stand where it does.
func (c commands) behind(in part, command string) (part, bool) {
	switch {
	case in == outside && command == c.ifdef:
		return inNew, true
	case in == outside && command == c.ifndef:
		return inOld, true
	case in == inOld && command == c.otherwise:
		return inNew, true
	case in == inOld && command == c.endifNot, in == inNew && command == c.endif:
		return outside, true
	}
	return outside, false
}

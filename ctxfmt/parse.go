package ctxfmt

import (
	"slices"
	"strings"

	"redline/api"
	"redline/lines"
	"redline/num"
	"redline/patchtext"
)

// Parse is the patches that a text in the context form is.
func Parse(text string) (found []api.Patch, wrong error) {
	if len(text) > api.MaxText {
		return nil, &api.Fault{Err: api.ErrLong}
	}
	defer func() {
		if thrown := recover(); thrown != nil {
			found, wrong = nil, thrown.(*api.Fault) // the reader throws nothing else
		}
	}()
	r := reader{lines: lines.Split(text)}
	for r.next < len(r.lines) {
		found = append(found, r.patch(len(found)))
	}
	return found, nil
}

// reader goes through lines, and throws a fault at the first thing that is wrong.
type reader struct {
	lines []string
	next  int // how many are read
}

// throw tells what is wrong with the line that has that number, from 1 on.
func throw(at int, err api.Errno) { panic(&api.Fault{At: at, Err: err}) }

// refuse tells what is wrong with the next line.
func (r *reader) refuse(err api.Errno) { throw(r.next+1, err) }

// line is the next line, which must be there, with its line feed.
func (r *reader) line() string {
	if r.next == len(r.lines) {
		r.refuse(api.ErrShort)
	}
	line := r.lines[r.next]
	if !strings.HasSuffix(line, feed) {
		r.refuse(api.ErrText)
	}
	return line
}

// bare is the next line without its line feed and what must stand ahead of it.
func (r *reader) bare(head string) string {
	s, ok := strings.CutPrefix(strings.TrimSuffix(r.line(), feed), head)
	if !ok {
		r.refuse(api.ErrText)
	}
	return s
}

// patch is the patch that stands next, behind as many as ahead says.
func (r *reader) patch(ahead int) api.Patch {
	var p api.Patch
	p.Old = r.name(oldHead)
	if ahead == api.MaxFiles {
		r.refuse(api.ErrLong)
	}
	r.next++
	p.New = r.name(newHead)
	r.next++
	for len(p.Hunks) == 0 || r.atStars() {
		p.Hunks = append(p.Hunks, r.hunk(len(p.Hunks)))
	}
	return p
}

// name is the name on the next line, behind what must stand ahead of it there.
func (r *reader) name(head string) string {
	name, err := patchtext.Named(r.bare(head))
	if err != api.OK {
		r.refuse(err)
	}
	return name
}

// atStars tells whether the next line is there, and looks like one of stars, be it without its line feed.
func (r *reader) atStars() bool {
	return r.next < len(r.lines) && strings.HasPrefix(r.lines[r.next], stars)
}

// hunk is the hunk that stands next, behind as many of its patch as ahead says.
func (r *reader) hunk(ahead int) api.Hunk {
	at := r.stars(ahead)
	old := r.side(oldHead, oldTail, api.Removed)
	made := r.side(newHead, newTail, api.Added)
	// A side that has no lines of its own is left out: those that are kept stand on the other one.
	if len(old.lines) == 0 {
		old.lines = kept(made.lines)
	}
	if len(made.lines) == 0 {
		made.lines = kept(old.lines)
	}
	if all(old.lines, api.Same) && all(made.lines, api.Same) {
		throw(at, api.ErrScript)
	}
	checkRanges(old, made)
	l, ok := laid(old.lines, made.lines)
	if !ok {
		throw(at, api.ErrMatch)
	}
	return api.Hunk{A: old.first, AN: len(old.lines), B: made.first, BN: len(made.lines), Lines: l}
}

// stars passes over the line of stars that must stand next, behind as many hunks of its patch as ahead says, and answers its number.
func (r *reader) stars(ahead int) int {
	if behind := r.bare(stars); behind != "" && behind[0] != blank {
		r.refuse(api.ErrText)
	}
	if ahead == api.MaxHunks {
		r.refuse(api.ErrLong)
	}
	r.next++
	return r.next
}

// side is the old or the new lines of a hunk, as they stand in a text, behind their range.
type side struct {
	at    int // the number of the line with the range
	first int // the numbers of the range: of a single one both are that
	last  int
	lines []api.Mark
}

// side is the side that stands next: its range between head and tail, and lines that are kept, or changed, or have that sign.
func (r *reader) side(head, tail string, sign byte) side {
	digits, ok := strings.CutSuffix(r.bare(head), tail)
	first, last, right := numbers(digits)
	if !ok || !right {
		r.refuse(api.ErrText)
	}
	r.next++
	s := side{at: r.next, first: first, last: last}
	for r.next < len(r.lines) && isShown(r.lines[r.next], sign) {
		line := r.line()
		s.lines = append(s.lines, api.Mark{Sign: line[0], Text: line[2:]})
		r.next++
	}
	if len(s.lines) > 0 {
		r.end(&s.lines[len(s.lines)-1])
	}
	return s
}

// isShown tells whether a line begins as one of a side does whose own sign is that.
func isShown(line string, sign byte) bool {
	if len(line) < 2 || line[1] != blank {
		return false
	}
	return line[0] == api.Same || line[0] == both || line[0] == sign
}

// end takes the line feed from a side's last line, if the mark stands behind it. Of an empty line nothing would be left: behind that the mark may not stand, and is left to be refused.
func (r *reader) end(last *api.Mark) {
	if last.Text == feed || r.next == len(r.lines) || r.lines[r.next] != patchtext.Mark {
		return
	}
	last.Text = strings.TrimSuffix(last.Text, feed)
	r.next++
}

// numbers is the two numbers of which s is the range, or twice the one, and whether it is one.
func numbers(s string) (first, last int, right bool) {
	front, behind, several := strings.Cut(s, ",")
	first, err := num.Parse(front)
	if err != api.OK || !several {
		return first, first, err == api.OK
	}
	last, err = num.Parse(behind)
	return first, last, err == api.OK && first > 0 && last > first
}

// checkRanges throws what is wrong with the ranges of sides whose lines are through.
func checkRanges(old, made side) {
	sides := []side{old, made}
	for _, s := range sides {
		if !s.counted() {
			throw(s.at, api.ErrCount)
		}
	}
	for _, s := range sides {
		if s.first == 0 && len(s.lines) > 0 {
			throw(s.at, api.ErrRange)
		}
	}
}

// counted tells whether the range says as many lines as there are: a single number says one, or none.
func (s side) counted() bool {
	said := s.last - s.first + 1
	return len(s.lines) == said || len(s.lines) == 0 && said == 1
}

// kept is the lines that are kept, in a new list.
func kept(l []api.Mark) []api.Mark {
	return slices.DeleteFunc(slices.Clone(l), func(m api.Mark) bool { return !isKept(m) })
}

// laid is old and new lines in one list, in each piece those that are taken out ahead of those that are put in; and whether they go together.
func laid(old, made []api.Mark) ([]api.Mark, bool) {
	var l []api.Mark
	lay := func(sign byte, from []api.Mark) {
		for _, m := range from {
			l = append(l, api.Mark{Sign: sign, Text: m.Text})
		}
	}
	for {
		gone, come := piece(old), piece(made)
		if !matched(gone, come) {
			return nil, false
		}
		lay(api.Removed, gone)
		lay(api.Added, come)
		old, made = old[len(gone):], made[len(come):]
		if len(old) == 0 || len(made) == 0 {
			return l, len(old) == len(made)
		}
		if old[0] != made[0] {
			return nil, false
		}
		lay(api.Same, old[:1])
		old, made = old[1:], made[1:]
	}
}

// matched tells whether the lines of a piece, old and new ones, have the signs with which such a piece is shown.
func matched(gone, come []api.Mark) bool {
	switch {
	case len(come) == 0:
		return all(gone, api.Removed)
	case len(gone) == 0:
		return all(come, api.Added)
	}
	return all(gone, both) && all(come, both)
}

// all tells whether each line has that sign.
func all(l []api.Mark, sign byte) bool {
	return !slices.ContainsFunc(l, func(m api.Mark) bool { return m.Sign != sign })
}

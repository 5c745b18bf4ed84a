package unified

import (
	"slices"
	"strings"

	"redline/api"
	"redline/lines"
	"redline/num"
	"redline/patchtext"
)

// Parse is the patches that a text in the unified form is.
func Parse(text string) (found []api.Patch, wrong error) {
	if len(text) > api.MaxText {
		return nil, &api.Fault{Err: api.ErrLong}
	}
	defer func() {
		if thrown := recover(); thrown != nil {
			found, wrong = nil, thrown.(*api.Fault) // the reader throws nothing else
		}
	}()
	r := reader{lines: lines.Split(text)}
	for r.next < len(r.lines) {
		found = append(found, r.patch(len(found)))
	}
	return found, nil
}

// reader goes through lines, and throws a fault at the first thing that is wrong.
type reader struct {
	lines []string
	next  int // how many are read
}

// throw tells what is wrong with the line that has that number, from 1 on.
func throw(at int, err api.Errno) { panic(&api.Fault{At: at, Err: err}) }

// refuse tells what is wrong with the next line.
func (r *reader) refuse(err api.Errno) { throw(r.next+1, err) }

// line is the next line, which must be there, with its line feed.
func (r *reader) line() string {
	if r.next == len(r.lines) {
		r.refuse(api.ErrShort)
	}
	line := r.lines[r.next]
	if !strings.HasSuffix(line, feed) {
		r.refuse(api.ErrText)
	}
	return line
}

// patch is the patch that stands next, behind as many as ahead says.
func (r *reader) patch(ahead int) api.Patch {
	var p api.Patch
	p.Old = r.name(oldName)
	if ahead == api.MaxFiles {
		r.refuse(api.ErrLong)
	}
	r.next++
	p.New = r.name(newName)
	r.next++
	for len(p.Hunks) == 0 || r.atHunk() {
		p.Hunks = append(p.Hunks, r.hunk(len(p.Hunks)))
	}
	return p
}

// name is the name on the next line, behind what must stand ahead of it there.
func (r *reader) name(head string) string {
	s, ok := strings.CutPrefix(strings.TrimSuffix(r.line(), feed), head)
	if !ok {
		r.refuse(api.ErrText)
	}
	name, err := Named(s)
	if err != api.OK {
		r.refuse(err)
	}
	return name
}

// atHunk tells whether the next line is there, and looks like one that begins a hunk, be it without its line feed.
func (r *reader) atHunk() bool {
	return r.next < len(r.lines) && strings.HasPrefix(r.lines[r.next], oldHead)
}

// counts is how many old and how many new lines there are of something.
type counts [2]int

// hunk is the hunk that stands next, behind as many of its patch as ahead says.
func (r *reader) hunk(ahead int) api.Hunk {
	h := r.head(ahead)
	at := r.next
	left := counts{h.AN, h.BN}
	for left != (counts{}) {
		var m api.Mark
		m, left = r.mark(left)
		h.Lines = append(h.Lines, m)
	}
	if !slices.ContainsFunc(h.Lines, isChanged) {
		throw(at, api.ErrScript)
	}
	return h
}

// isChanged tells whether a line is in one text alone.
func isChanged(m api.Mark) bool { return m.Sign != api.Same }

// head passes over the line that must begin a hunk, behind as many of its patch as ahead says, and is the hunk without its lines.
func (r *reader) head(ahead int) api.Hunk {
	h, ok := begun(strings.TrimSuffix(r.line(), feed))
	if !ok {
		r.refuse(api.ErrText)
	}
	if ahead == api.MaxHunks {
		r.refuse(api.ErrLong)
	}
	if h.A == 0 && h.AN > 0 || h.B == 0 && h.BN > 0 {
		r.refuse(api.ErrRange)
	}
	r.next++
	return h
}

// begun is the hunk that a line begins, without its lines, and whether it begins one.
func begun(line string) (api.Hunk, bool) {
	s, headed := strings.CutPrefix(line, oldHead)
	// No count has a blank within it: so each of these two is found at its first place.
	old, s, parted := strings.Cut(s, newHead)
	made, behind, ended := strings.Cut(s, tail)
	a, an, rightA := numbers(old)
	b, bn, rightB := numbers(made)
	right := headed && parted && ended && rightA && rightB && (behind == "" || behind[0] == blank)
	return api.Hunk{A: a, AN: an, B: b, BN: bn}, right
}

// numbers is the number and the count that s is, and whether it is such; without a count one line is meant.
func numbers(s string) (number, count int, right bool) {
	front, behind, counted := strings.Cut(s, comma)
	number, err := num.Parse(front)
	if err != api.OK || !counted {
		return number, 1, err == api.OK
	}
	count, err = num.Parse(behind)
	return number, count, err == api.OK
}

// mark is the line of a file that stands next, which must be among those that are left of its hunk; and what is left then.
func (r *reader) mark(left counts) (api.Mark, counts) {
	line := r.line()
	taken := countsOf(line[0])
	left[0] -= taken[0]
	left[1] -= taken[1]
	if taken == (counts{}) || left[0] < 0 || left[1] < 0 {
		r.refuse(api.ErrText)
	}
	r.next++
	m := api.Mark{Sign: line[0], Text: line[1:]}
	if isLast(taken, left) && r.unfed(m.Text) {
		m.Text = strings.TrimSuffix(m.Text, feed)
		r.next++
	}
	return m, left
}

// countsOf is how many old and new lines a line with that sign is: none, if it is no sign.
func countsOf(sign byte) counts {
	switch sign {
	case api.Same:
		return counts{1, 1}
	case api.Removed:
		return counts{1, 0}
	case api.Added:
		return counts{0, 1}
	}
	return counts{}
}

// isLast tells whether a line is the last one on each side on which it is.
func isLast(taken, left counts) bool {
	return (taken[0] == 0 || left[0] == 0) && (taken[1] == 0 || left[1] == 0)
}

// unfed tells whether the mark stands next, behind a line that may lack its line feed: of an empty one nothing would be left.
func (r *reader) unfed(line string) bool {
	return line != feed && r.next < len(r.lines) && r.lines[r.next] == patchtext.Mark
}

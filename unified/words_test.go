package unified_test

import (
	"regexp"
	"strconv"
	"strings"
	"testing"

	"redline/api"
	"redline/hunks"
	"redline/samples"
	"redline/unified"
)

// What Parse must answer of any text, by the chapter's words alone: line by line, each held against what may stand there.

// What may stand next.
const (
	oldName  = iota
	newName  // behind an old one
	headLine // that begins a patch's first hunk
	fileLine // of a hunk whose lines are not through
	behind   // a hunk: another one, another patch, the end
)

// headForm is a line that begins a hunk.
var headForm = regexp.MustCompile(`^@@ -(0|[1-9][0-9]*)(?:,(0|[1-9][0-9]*))? \+(0|[1-9][0-9]*)(?:,(0|[1-9][0-9]*))? @@(?: .*)?\n$`)

// headRead is the hunk that a line begins, without its lines.
func headRead(line string) (api.Hunk, bool) {
	parts := headForm.FindStringSubmatch(line)
	if parts == nil {
		return api.Hunk{}, false
	}
	var n [4]int
	for i, s := range parts[1:] {
		if s == "" {
			s = "1"
		}
		number, err := strconv.ParseUint(s, 10, 31)
		if err != nil {
			return api.Hunk{}, false
		}
		n[i] = int(number)
	}
	return samples.Hunk(n), true
}

// reading is what was read of a text.
type reading struct {
	next      int // what may stand next
	found     []api.Patch
	head      int  // the number of the line that began the last hunk
	old, made int  // how many of its lines are read
	changed   bool // one of them has Removed or Added
	markable  bool // the mark may stand next
}

// parseByWords is the patches of a text, or the place and the number of the fault.
func parseByWords(text string) ([]api.Patch, int, api.Errno) {
	if len(text) > 1<<20 {
		return nil, 0, api.ErrLong
	}
	var r reading
	n := 0
	for line := range strings.Lines(text) {
		n++
		if at, code := r.take(line, n); code != api.OK {
			return nil, at, code
		}
	}
	if r.next != behind && n > 0 {
		return nil, n + 1, api.ErrShort
	}
	return r.found, 0, api.OK
}

// take reads the line with the number n.
func (r *reading) take(line string, n int) (int, api.Errno) {
	if r.markable && line == noFeed {
		l := r.hunk().Lines
		l[len(l)-1].Text = strings.TrimSuffix(l[len(l)-1].Text, "\n")
		r.markable = false
		return 0, api.OK
	}
	r.markable = false
	if !strings.HasSuffix(line, "\n") {
		return n, api.ErrText
	}
	switch {
	case r.next == headLine || r.next == behind && strings.HasPrefix(line, "@"):
		return r.takeHead(line, n)
	case r.next == fileLine:
		return r.takeLine(line, n)
	case r.next == newName:
		return n, r.takeName(line, "+++ ")
	}
	return n, r.takeName(line, "--- ")
}

// patch is the patch that is being read, and hunk its last hunk.
func (r *reading) patch() *api.Patch { return &r.found[len(r.found)-1] }

func (r *reading) hunk() *api.Hunk { return &r.patch().Hunks[len(r.patch().Hunks)-1] }

// takeName reads a line with a name.
func (r *reading) takeName(line, front string) api.Errno {
	if !strings.HasPrefix(line, front) {
		return api.ErrText
	}
	name, right := samples.NameFrom(line[len(front) : len(line)-1])
	switch {
	case !right:
		return api.ErrName
	case r.next == newName:
		r.patch().New = name
		r.next = headLine
		return api.OK
	case len(r.found) >= 64:
		return api.ErrLong
	}
	r.found = append(r.found, api.Patch{Old: name})
	r.next = newName
	return api.OK
}

// takeHead reads a line that begins a hunk.
func (r *reading) takeHead(line string, n int) (int, api.Errno) {
	h, right := headRead(line)
	switch {
	case !right:
		return n, api.ErrText
	case len(r.patch().Hunks) >= 4096:
		return n, api.ErrLong
	case h.A == 0 && h.AN != 0 || h.B == 0 && h.BN != 0:
		return n, api.ErrRange
	}
	r.patch().Hunks = append(r.patch().Hunks, h)
	r.next, r.head, r.old, r.made, r.changed = fileLine, n, 0, 0, false
	return r.through()
}

// takeLine reads a line of a file.
func (r *reading) takeLine(line string, n int) (int, api.Errno) {
	h := r.hunk()
	isOld, isNew := strings.ContainsAny(line[:1], " -"), strings.ContainsAny(line[:1], " +")
	if !isOld && !isNew || isOld && r.old == h.AN || isNew && r.made == h.BN {
		return n, api.ErrText
	}
	if isOld {
		r.old++
	}
	if isNew {
		r.made++
	}
	h.Lines = append(h.Lines, api.Mark{Sign: line[0], Text: line[1:]})
	r.changed = r.changed || isOld != isNew
	r.markable = line[1:] != "\n" && (!isOld || r.old == h.AN) && (!isNew || r.made == h.BN)
	return r.through()
}

// through looks whether the lines of the last hunk are through, and then tells what is wrong with it.
func (r *reading) through() (int, api.Errno) {
	if h := r.hunk(); r.old < h.AN || r.made < h.BN {
		return 0, api.OK
	}
	if !r.changed {
		return r.head, api.ErrScript
	}
	r.next = behind
	return 0, api.OK
}

// checkParse holds Parse of a right text against the patches that it must answer; these must be right, and be read again from what Print makes of them.
func checkParse(t *testing.T, text string, want []api.Patch) {
	t.Helper()
	l, err := unified.Parse(text)
	if err != nil || !samples.SamePatches(l, want) {
		t.Errorf("%s: %s, %v, want %s", told(text), told(l), err, told(want))
		return
	}
	var again strings.Builder
	for _, p := range l {
		for _, h := range p.Hunks {
			if code := hunks.Check(h); code != api.OK {
				t.Errorf("%s: %s is no right hunk: %d", told(text), told(h), code)
			}
		}
		s, code := unified.Print(p)
		if code != api.OK || s == "" {
			t.Errorf("%s: %s is no right patch, or has no hunks: %d", told(text), told(p), code)
		}
		again.WriteString(s)
	}
	if again.String() == text {
		return
	}
	if l, err := unified.Parse(again.String()); err != nil || !samples.SamePatches(l, want) {
		t.Errorf("%s, and then %s: %s, %v, want %s", told(text), told(again.String()), told(l), err, told(want))
	}
}

// checkFault holds Parse of a wrong text against the fault that it must answer, and nothing else.
func checkFault(t *testing.T, text string, at int, code api.Errno) {
	t.Helper()
	l, err := unified.Parse(text)
	if len(l) != 0 || !samples.IsFault(err, at, code) {
		t.Errorf("%s: %s, %v, want %d: error %d", told(text), told(l), err, at, code)
	}
}

// checkByWords holds Parse of any text against the chapter's words, and tells whether the text is right.
func checkByWords(t *testing.T, text string) bool {
	t.Helper()
	want, at, code := parseByWords(text)
	if code == api.OK {
		checkParse(t, text, want)
		return true
	}
	checkFault(t, text, at, code)
	return false
}

package ctxfmt_test

import (
	"regexp"
	"slices"
	"strconv"
	"strings"
	"testing"

	"redline/api"
	"redline/ctxfmt"
	"redline/hunks"
	"redline/samples"
)

// What Parse must answer of any text, by the chapter's words alone: line by line, each held against what may stand there.

// What may stand next.
const (
	oldName = iota
	newName
	lineOfStars
	oldRange
	oldLines // or the mark, or the new range
	newLines // or the mark, or another hunk, another patch, the end
)

// Lines of the form.
var (
	starsForm    = regexp.MustCompile(`^\*{15}( .*)?\n$`)
	oldRangeForm = regexp.MustCompile(`^\*\*\* (0|[1-9][0-9]*)(?:,([1-9][0-9]*))? \*\*\*\*\n$`)
	newRangeForm = regexp.MustCompile(`^--- (0|[1-9][0-9]*)(?:,([1-9][0-9]*))? ----\n$`)
	pieceForm    = regexp.MustCompile(`^(-*\||\|\+*|!+\|!+)$`)
)

// sideRead is a range, and the lines behind it.
type sideRead struct {
	at          int // the number of its line
	first, last int // last is 0, if there is one number alone
	marks       []api.Mark
	closed      bool // by the mark
}

// rangeRead is the side that a line says, without its lines.
func rangeRead(form *regexp.Regexp, line string, at int) (sideRead, bool) {
	parts := form.FindStringSubmatch(line)
	if parts == nil {
		return sideRead{}, false
	}
	first, err := strconv.ParseUint(parts[1], 10, 31)
	if err != nil {
		return sideRead{}, false
	}
	s := sideRead{at: at, first: int(first)}
	if parts[2] != "" {
		last, err := strconv.ParseUint(parts[2], 10, 31)
		if err != nil || first == 0 || last <= first {
			return sideRead{}, false
		}
		s.last = int(last)
	}
	return s, true
}

// take adds a line of the side, or the mark behind it, and tells whether it was one.
func (s *sideRead) take(line string, sign string) bool {
	if s.closed {
		return false
	}
	n := len(s.marks)
	if line == noFeed && n > 0 && s.marks[n-1].Text != "\n" {
		s.marks[n-1].Text = strings.TrimSuffix(s.marks[n-1].Text, "\n")
		s.closed = true
		return true
	}
	for _, front := range []string{"  ", "! ", sign + " "} {
		if strings.HasPrefix(line, front) {
			s.marks = append(s.marks, api.Mark{Sign: front[0], Text: line[2:]})
			return true
		}
	}
	return false
}

// said tells whether the range says so many lines.
func (s sideRead) said(n int) bool {
	if s.last == 0 {
		return n <= 1
	}
	return n == s.last-s.first+1
}

// keptRead is the lines behind two blanks.
func keptRead(l []api.Mark) []api.Mark {
	var found []api.Mark
	for _, m := range l {
		if m.Sign == ' ' {
			found = append(found, m)
		}
	}
	return found
}

// cutRead is lines, cut at those that are kept: these, and of each piece the signs, and the lines.
func cutRead(l []api.Mark) (kept []string, signs [][]byte, pieces [][]string) {
	signs, pieces = [][]byte{nil}, [][]string{nil}
	for _, m := range l {
		if m.Sign == ' ' {
			kept, signs, pieces = append(kept, m.Text), append(signs, nil), append(pieces, nil)
			continue
		}
		last := len(signs) - 1
		signs[last] = append(signs[last], m.Sign)
		pieces[last] = append(pieces[last], m.Text)
	}
	return kept, signs, pieces
}

// joinRead is old and new lines in one list, and whether they go together.
func joinRead(old, made []api.Mark) ([]api.Mark, bool) {
	keptOld, signsOld, gone := cutRead(old)
	keptNew, signsNew, come := cutRead(made)
	if !slices.Equal(keptOld, keptNew) {
		return nil, false
	}
	var l []api.Mark
	for i := range gone {
		if !pieceForm.MatchString(string(signsOld[i]) + "|" + string(signsNew[i])) {
			return nil, false
		}
		for _, text := range gone[i] {
			l = append(l, api.Mark{Sign: api.Removed, Text: text})
		}
		for _, text := range come[i] {
			l = append(l, api.Mark{Sign: api.Added, Text: text})
		}
		if i < len(keptOld) {
			l = append(l, api.Mark{Sign: api.Same, Text: keptOld[i]})
		}
	}
	return l, true
}

// reading is what was read of a text.
type reading struct {
	next      int // what may stand next
	found     []api.Patch
	stars     int // the number of the last line of stars
	old, made sideRead
}

// parseByWords is the patches of a text, or the place and the number of the fault.
func parseByWords(text string) ([]api.Patch, int, api.Errno) {
	if len(text) > 1<<20 {
		return nil, 0, api.ErrLong
	}
	var r reading
	n := 0
	for line := range strings.Lines(text) {
		n++
		if at, code := r.take(line, n); code != api.OK {
			return nil, at, code
		}
	}
	switch {
	case r.next == newLines:
		if at, code := r.through(); code != api.OK {
			return nil, at, code
		}
	case n > 0:
		return nil, n + 1, api.ErrShort
	}
	return r.found, 0, api.OK
}

// take reads the line with the number n.
func (r *reading) take(line string, n int) (int, api.Errno) {
	fed := strings.HasSuffix(line, "\n")
	switch r.next {
	case oldLines:
		if fed && r.old.take(line, "-") {
			return 0, api.OK
		}
	case newLines:
		if r.made.take(line, "+") {
			if !fed {
				return n, api.ErrText
			}
			return 0, api.OK
		}
		if at, code := r.through(); code != api.OK {
			return at, code
		}
		r.next = oldName
		if strings.HasPrefix(line, "****") {
			r.next = lineOfStars
		}
	}
	if !fed {
		return n, api.ErrText
	}
	return n, r.takeForm(line, n)
}

// takeForm reads a line that is none of a file.
func (r *reading) takeForm(line string, n int) api.Errno {
	right := true
	switch r.next {
	case oldName, newName:
		return r.takeName(line)
	case lineOfStars:
		right = starsForm.MatchString(line)
		if right && len(r.found[len(r.found)-1].Hunks) >= 4096 {
			return api.ErrLong
		}
		r.stars = n
	case oldRange:
		r.old, right = rangeRead(oldRangeForm, line, n)
	case oldLines:
		r.made, right = rangeRead(newRangeForm, line, n)
	}
	if !right {
		return api.ErrText
	}
	r.next++
	return api.OK
}

// takeName reads a line with a name.
func (r *reading) takeName(line string) api.Errno {
	front := []string{"*** ", "--- "}[r.next]
	if !strings.HasPrefix(line, front) {
		return api.ErrText
	}
	name, right := samples.NameFrom(line[len(front) : len(line)-1])
	if !right {
		return api.ErrName
	}
	if r.next == newName {
		r.found[len(r.found)-1].New = name
	} else if len(r.found) >= 64 {
		return api.ErrLong
	} else {
		r.found = append(r.found, api.Patch{Old: name})
	}
	r.next++
	return api.OK
}

// through adds the hunk whose lines are through, and tells what is wrong with it.
func (r *reading) through() (int, api.Errno) {
	old, made := r.old.marks, r.made.marks
	switch {
	case len(old) == 0:
		old = keptRead(made)
	case len(made) == 0:
		made = keptRead(old)
	}
	l, together := joinRead(old, made)
	switch {
	case len(keptRead(old)) == len(old) && len(keptRead(made)) == len(made):
		return r.stars, api.ErrScript
	case !r.old.said(len(old)):
		return r.old.at, api.ErrCount
	case !r.made.said(len(made)):
		return r.made.at, api.ErrCount
	case r.old.first == 0 && len(old) > 0:
		return r.old.at, api.ErrRange
	case r.made.first == 0 && len(made) > 0:
		return r.made.at, api.ErrRange
	case !together:
		return r.stars, api.ErrMatch
	}
	p := &r.found[len(r.found)-1]
	p.Hunks = append(p.Hunks, api.Hunk{A: r.old.first, AN: len(old), B: r.made.first, BN: len(made), Lines: l})
	return 0, api.OK
}

// checkParse holds Parse of a right text against the patches that it must answer; these must be right, and be read again from what Print makes of them.
func checkParse(t *testing.T, text string, want []api.Patch) {
	t.Helper()
	l, err := ctxfmt.Parse(text)
	if err != nil || !samples.SamePatches(l, want) {
		t.Errorf("%s: %s, %v, want %s", told(text), told(l), err, told(want))
		return
	}
	var again strings.Builder
	for _, p := range l {
		for _, h := range p.Hunks {
			if code := hunks.Check(h); code != api.OK {
				t.Errorf("%s: %s is no right hunk: %d", told(text), told(h), code)
			}
		}
		s, code := ctxfmt.Print(p)
		if code != api.OK || s == "" {
			t.Errorf("%s: %s is no right patch, or has no hunks: %d", told(text), told(p), code)
		}
		again.WriteString(s)
	}
	if again.Len() > api.MaxText || again.String() == text {
		return
	}
	if l, err := ctxfmt.Parse(again.String()); err != nil || !samples.SamePatches(l, want) {
		t.Errorf("%s, and then %s: %s, %v, want %s", told(text), told(again.String()), told(l), err, told(want))
	}
}

// checkFault holds Parse of a wrong text against the fault that it must answer, and nothing else.
func checkFault(t *testing.T, text string, at int, code api.Errno) {
	t.Helper()
	l, err := ctxfmt.Parse(text)
	if len(l) != 0 || !samples.IsFault(err, at, code) {
		t.Errorf("%s: %s, %v, want %d: error %d", told(text), told(l), err, at, code)
	}
}

// checkByWords holds Parse of any text against the chapter's words, and tells whether the text is right.
func checkByWords(t *testing.T, text string) bool {
	t.Helper()
	want, at, code := parseByWords(text)
	if code == api.OK {
		checkParse(t, text, want)
		return true
	}
	checkFault(t, text, at, code)
	return false
}

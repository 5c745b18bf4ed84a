package patchset

import (
	"slices"
	"strings"

	"redline/api"
	"redline/ctxfmt"
	"redline/hunks"
	"redline/normal"
	"redline/patchtext"
	"redline/unified"
)

// form is a form of patches: its number, what tells by its first line whether a text is in it, how many patches a text may have, and what reads such a text, and writes a patch.
type form struct {
	number int
	begins func(line string) bool
	most   int
	parse  func(text string) ([]api.Patch, error)
	print  func(p api.Patch) (string, api.Errno)
}

// forms are all forms that have hunks.
func forms() []form {
	front := func(s string) func(line string) bool {
		return func(line string) bool { return strings.HasPrefix(line, s) }
	}
	return []form{
		{api.FUnified, front("--- "), api.MaxFiles, unified.Parse, unified.Print},
		{api.FContext, front("*** "), api.MaxFiles, ctxfmt.Parse, ctxfmt.Print},
		{api.FNormal, isNumbered, 1, parseNormal, printNormal},
	}
}

// formOf is the form of a text whose lines that are no remarks are these, and whether it has one.
func formOf(l []string) (form, bool) {
	return formThat(func(f form) bool { return len(l) > 0 && f.begins(l[0]) })
}

// formNumbered is the form that has that number, and whether there is one.
func formNumbered(number int) (form, bool) {
	return formThat(func(f form) bool { return f.number == number })
}

// formThat is the form of which that is so, and whether there is one.
func formThat(is func(f form) bool) (form, bool) {
	l := forms()
	if i := slices.IndexFunc(l, is); i >= 0 {
		return l[i], true
	}
	return form{}, false
}

// isNumbered tells whether a line begins with a digit.
func isNumbered(line string) bool { return '0' <= line[0] && line[0] <= '9' }

// parseNormal is the patch that a text in the normal form is, which says no names.
func parseNormal(text string) ([]api.Patch, error) {
	l, err := normal.Parse(text)
	if err != nil {
		return nil, err
	}
	return []api.Patch{{Hunks: l}}, nil
}

// printNormal is a patch in the normal form, which is refused as in the others: also for its names, though none is told.
func printNormal(p api.Patch) (string, api.Errno) {
	if err := patchtext.Check(p); err != api.OK {
		return "", err
	}
	var text strings.Builder
	for _, h := range p.Hunks {
		for _, change := range changes(h) {
			text.WriteString(patchtext.Normal(change))
		}
	}
	return text.String(), api.OK
}

// changes is what a right hunk changes, each piece of it as a hunk of its own, without kept lines.
func changes(h api.Hunk) []api.Hunk {
	// Wherever a hunk stands, its lines are an edit script between just its old and its new ones, and it stands at the front of these.
	front := h
	front.A, front.B = min(h.AN, 1), min(h.BN, 1)
	script, _ := hunks.Changes([]api.Hunk{front})
	l, _ := hunks.Make(script, hunks.Old(h), hunks.New(h), 0)
	for i := range l {
		l[i].A += h.A - front.A
		l[i].B += h.B - front.B
	}
	return l
}

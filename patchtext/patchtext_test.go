package patchtext_test

import (
	"slices"
	"strings"
	"testing"

	"redline/api"
	"redline/hunks"
	"redline/patchtext"
	"redline/samples"
)

func TestNamesStandAsTheWordsSay(t *testing.T) {
	for _, c := range samples.FileNames() {
		if s := patchtext.Name(c.Name); s != c.Text {
			t.Errorf("%q stands as %q, want %q", c.Name, s, c.Text)
		}
		if name, err := patchtext.Named(c.Text); name != c.Name || err != api.OK {
			t.Errorf("%q stands for %q, %d, want %q", c.Text, name, err, c.Name)
		}
	}
	for _, s := range samples.WrongNames() {
		if name, err := patchtext.Named(s); name != "" || err != api.ErrName {
			t.Errorf("%q stands for %q, %d", s, name, err)
		}
	}
}

func TestLinesThatLackTheirFeedHaveTheMarkBehindThem(t *testing.T) {
	const mark = "\\ No newline at end of file\n"
	for line, want := range map[string]string{"a\n": "a\n", "\n": "\n", "a": "a\n" + mark, "a\r": "a\r\n" + mark, " ": " \n" + mark, mark: mark, mark[:5]: mark[:5] + "\n" + mark} {
		if s := patchtext.Line(line); s != want {
			t.Errorf("%q stands as %q, want %q", line, s, want)
		}
	}
	if patchtext.Mark != mark || patchtext.Feed != "\n" {
		t.Errorf("the mark is %q, the feed %q", patchtext.Mark, patchtext.Feed)
	}
}

func TestCheckTellsWhatComesFirst(t *testing.T) {
	right := samples.SignedHunk("-")
	most, more := strings.Repeat("x", api.MaxName), strings.Repeat("x", api.MaxName+1)
	for _, c := range []struct {
		name string
		p    api.Patch
		want api.Errno
	}{
		{"nothing", api.Patch{}, api.OK},
		{"all that may be", api.Patch{Old: most, New: most, Hunks: slices.Repeat([]api.Hunk{right}, api.MaxHunks)}, api.OK},
		{"a long old name", api.Patch{Old: more}, api.ErrName},
		{"a long new name", api.Patch{New: more}, api.ErrName},
		{"too many hunks", api.Patch{Hunks: slices.Repeat([]api.Hunk{right}, api.MaxHunks+1)}, api.ErrLong},
		{"a long name, too many wrong hunks", api.Patch{New: more, Hunks: make([]api.Hunk, api.MaxHunks+1)}, api.ErrName},
		{"too many wrong hunks", api.Patch{Hunks: make([]api.Hunk, api.MaxHunks+1)}, api.ErrLong},
		{"two wrong hunks", api.Patch{Hunks: []api.Hunk{right, {A: -1}, {}}}, api.ErrRange},
	} {
		if err := patchtext.Check(c.p); err != c.want {
			t.Errorf("%s: %d, want %d", c.name, err, c.want)
		}
	}
	for _, c := range samples.WrongHunks() {
		if err := patchtext.Check(api.Patch{Hunks: []api.Hunk{right, c.Hunk}}); err != hunks.Check(c.Hunk) {
			t.Errorf("%+v: %d", c.Hunk, err)
		}
	}
}

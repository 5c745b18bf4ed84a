package patchtext_test

import (
	"slices"
	"strings"
	"testing"

	"redline/api"
	"redline/hunks"
	"redline/patchtext"
	"redline/samples"
)

func TestNamesStandAsTheWordsSay(t *testing.T) {
	for _, c := range samples.FileNames() {
		if s := patchtext.Name(c.Name); s != c.Text {
			t.Errorf("%q stands as %q, want %q", c.Name, s, c.Text)
		}
		if name, err := patchtext.Named(c.Text); name != c.Name || err != api.OK {
			t.Errorf("%q stands for %q, %d, want %q", c.Text, name, err, c.Name)
		}
	}
	for _, s := range samples.WrongNames() {
		if name, err := patchtext.Named(s); name != "" || err != api.ErrName {
			t.Errorf("%q stands for %q, %d", s, name, err)
		}
	}
}

func TestLinesThatLackTheirFeedHaveTheMarkBehindThem(t *testing.T) {
	const mark = "\\ No newline at end of file\n"
	for line, want := range map[string]string{"a\n": "a\n", "\n": "\n", "a": "a\n" + mark, "a\r": "a\r\n" + mark, " ": " \n" + mark, mark: mark, mark[:5]: mark[:5] + "\n" + mark} {
		if s := patchtext.Line(line); s != want {
			t.Errorf("%q stands as %q, want %q", line, s, want)
		}
	}
	if patchtext.Mark != mark || patchtext.Feed != "\n" {
		t.Errorf("the mark is %q, the feed %q", patchtext.Mark, patchtext.Feed)
	}
}

func TestCheckTellsWhatComesFirst(t *testing.T) {
	right := samples.SignedHunk("-")
	most, more := strings.Repeat("x", api.MaxName), strings.Repeat("x", api.MaxName+1)
	for _, c := range []struct {
		name string
		p    api.Patch
		want api.Errno
	}{
		{"nothing", api.Patch{}, api.OK},
		{"all that may be", api.Patch{Old: most, New: most, Hunks: slices.Repeat([]api.Hunk{right}, api.MaxHunks)}, api.OK},
		{"a long old name", api.Patch{Old: more}, api.ErrName},
		{"a long new name", api.Patch{New: more}, api.ErrName},
		{"too many hunks", api.Patch{Hunks: slices.Repeat([]api.Hunk{right}, api.MaxHunks+1)}, api.ErrLong},
		{"a long name, too many wrong hunks", api.Patch{New: more, Hunks: make([]api.Hunk, api.MaxHunks+1)}, api.ErrName},
		{"too many wrong hunks", api.Patch{Hunks: make([]api.Hunk, api.MaxHunks+1)}, api.ErrLong},
		{"two wrong hunks", api.Patch{Hunks: []api.Hunk{right, {A: -1}, {}}}, api.ErrRange},
	} {
		if err := patchtext.Check(c.p); err != c.want {
			t.Errorf("%s: %d, want %d", c.name, err, c.want)
		}
	}
	for _, c := range samples.WrongHunks() {
		if err := patchtext.Check(api.Patch{Hunks: []api.Hunk{right, c.Hunk}}); err != hunks.Check(c.Hunk) {
			t.Errorf("%+v: %d", c.Hunk, err)
		}
	}
}

func TestRangesAreSaidByTheirEnds(t *testing.T) {
	for _, c := range []struct {
		number, count int
		want          string
	}{{0, 0, "0"}, {7, 0, "7"}, {7, 1, "7"}, {7, 2, "7,8"}, {1, 10, "1,10"}, {99, 2, "99,100"}, {api.MaxNumber, 1, "2147483647"}, {api.MaxNumber, 2, "2147483647,2147483648"}} {
		if s := patchtext.Range(c.number, c.count); s != c.want {
			t.Errorf("%d of %d: %q, want %q", c.count, c.number, s, c.want)
		}
	}
}

func TestTheNormalFormOfEachKindOfChange(t *testing.T) {
	const mark = "\\ No newline at end of file\n"
	for _, c := range []struct {
		hunk api.Hunk
		want string
	}{
		{samples.Hunk([4]int{2, 1, 1, 0}, "-a\n"), "2d1\n< a\n"},
		{samples.Hunk([4]int{0, 0, 1, 2}, "+a\n", "+\n"), "0a1,2\n> a\n> \n"},
		{samples.Hunk([4]int{3, 2, 9, 1}, "-a\n", "-b\n", "+c\n"), "3,4c9\n< a\n< b\n---\n> c\n"},
		{samples.Hunk([4]int{1, 1, 1, 1}, "-a", "+b"), "1c1\n< a\n" + mark + "---\n> b\n" + mark},
		{samples.Hunk([4]int{5, 0, 6, 1}, "+a"), "5a6\n> a\n" + mark},
	} {
		if s := patchtext.Normal(c.hunk); s != c.want {
			t.Errorf("%+v: %q, want %q", c.hunk, s, c.want)
		}
	}
	if patchtext.OldFront != "< " || patchtext.NewFront != "> " || patchtext.Divider != "---\n" {
		t.Errorf("fronts %q and %q, the line between %q", patchtext.OldFront, patchtext.NewFront, patchtext.Divider)
	}
}

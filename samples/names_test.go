package samples_test

import (
	"slices"
	"strings"
	"testing"

	"redline/api"
	"redline/samples"
)

func TestFileNamesStandAsTheyAreSaid(t *testing.T) {
	l := samples.FileNames()
	for _, c := range l {
		if s := samples.NameText(c.Name); s != c.Text {
			t.Errorf("%q stands as %q, not as %q", c.Name, s, c.Text)
		}
		if name, ok := samples.NameFrom(c.Text); name != c.Name || !ok {
			t.Errorf("%q stands for %q, %t, not for %q", c.Text, name, ok, c.Name)
		}
		if len(c.Name) > api.MaxName {
			t.Errorf("%q is too long", c.Name)
		}
	}
	for c := range 256 {
		text := string([]byte{byte(c)})
		if !slices.ContainsFunc(l, func(f samples.FileName) bool { return f.Name == text }) {
			t.Errorf("%q is not there", text)
		}
	}
}

func TestWrongNamesStandForNone(t *testing.T) {
	for _, s := range samples.WrongNames() {
		if name, ok := samples.NameFrom(s); ok {
			t.Errorf("%q stands for %q", s, name)
		}
		if strings.Contains(s, "\n") {
			t.Errorf("%q has a line feed", s)
		}
	}
}

func TestNameFromTakesNoLongOnes(t *testing.T) {
	for _, name := range []string{strings.Repeat("x", api.MaxName+1), strings.Repeat("\xff", api.MaxName+1), strings.Repeat(" ", 5000)} {
		if found, ok := samples.NameFrom(samples.NameText(name)); ok || found != "" {
			t.Errorf("%q", found)
		}
	}
}

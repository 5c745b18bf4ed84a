package samples_test

import (
	"slices"
	"testing"

	"redline/api"
	"redline/edits"
	"redline/lines"
	"redline/samples"
)

func TestUnfedTakesTheLastFeedAlone(t *testing.T) {
	for _, c := range []struct{ l, want []string }{
		{nil, nil},
		{[]string{"a\n"}, []string{"a"}},
		{[]string{"a"}, []string{"a"}},
		{[]string{"a\n", "b\n"}, []string{"a\n", "b"}},
		{[]string{"a\n", "\n\n"}, []string{"a\n", "\n"}},
	} {
		l := slices.Clone(c.l)
		if got := samples.Unfed(l); !slices.Equal(got, c.want) || !slices.Equal(l, c.l) {
			t.Errorf("%q: %q, want %q, and what was handed in is %q", c.l, got, c.want, l)
		}
	}
}

func TestSignsAreMadeOfAnyBytes(t *testing.T) {
	if s := samples.Signs("\x00\x01\x02\x03\x04\x05\xff"); s != "===-+==" {
		t.Errorf("%q", s)
	}
	if s := samples.Signs(""); s != "" {
		t.Errorf("of nothing %q", s)
	}
}

func TestRightLinesAreRightAndAsManyAsAsked(t *testing.T) {
	for _, c := range []struct {
		text string
		n    int
		want []string
	}{
		{"", 0, nil},
		{"a\nb", 0, nil},
		{"a\nb", 1, []string{"a\n"}},
		{"a\nb", 2, []string{"a\n", "b"}},
		{"a\nb", 4, []string{"a\n", "b\n", "more0\n", "more1\n"}},
		{"\n\nb\n", 3, []string{"\n", "\n", "b\n"}},
		{"", 2, []string{"more0\n", "more1\n"}},
	} {
		l := samples.Right(c.text, c.n)
		if !slices.Equal(l, c.want) || lines.Check(l) != api.OK {
			t.Errorf("%d of %q: %q, want %q", c.n, c.text, l, c.want)
		}
	}
}

func TestOfBeforeTheScriptMakesTheText(t *testing.T) {
	for _, c := range []struct {
		signs string
		b     []string
		want  []string
	}{
		{"", nil, nil},
		{"+", []string{"x\n"}, nil},
		{"--", nil, []string{"gone0\n", "gone1\n"}},
		{"=-+=", []string{"x\n", "y\n", "z"}, []string{"x\n", "gone1\n", "z"}},
	} {
		a := samples.Before(c.signs, c.b)
		if !slices.Equal(a, c.want) {
			t.Errorf("%q of %q: %q, want %q", c.signs, c.b, a, c.want)
		}
		if b, err := edits.Apply(samples.Script(c.signs), a, c.b); err != api.OK || !slices.Equal(b, c.b) {
			t.Errorf("%q of %q makes %q, %d", c.signs, a, b, err)
		}
	}
}

func TestNearlyHandsOverEachKindOfText(t *testing.T) {
	all := map[string]int{}
	const text = "ab\nc\n"
	samples.Nearly(text, func(s string) { all[s]++ })
	for _, want := range []string{
		"b\nc\n", "a\nc\n", "abc\n", "ab\n\n", "ab\nc", // a byte less
		"xb\nc\n", "\x00b\nc\n", "\xffb\nc\n", "a\n\nc\n", "ab\ncx", // another one
		"xab\nc\n", "ab\nxc\n", "\nab\nc\n", "ab\nc\xff\n", // one more
		"c\nab\n", "c\n", "ab\n", // lines exchanged, one left out
		"ab\nab\nc\n", "c\nab\nc\n", "ab\nc\nc\n", "ab\nc\nab\n", // one once more
	} {
		if all[want] == 0 {
			t.Errorf("%q is missing", want)
		}
	}
	for s := range all {
		if d := len(s) - len(text); d < -3 || d > 3 {
			t.Errorf("%q is too far off", s)
		}
	}
	samples.Nearly("", func(s string) {
		if s != "" {
			t.Errorf("%q is nearly nothing", s)
		}
	})
}

package hunks_test

import (
	"fmt"
	"math"
	"slices"
	"strings"
	"testing"

	"redline/api"
	"redline/edits"
	"redline/hunks"
	"redline/samples"
)

type rows = samples.Rows

// contexts are those that may be, at the edges and between.
func contexts() []int {
	return []int{0, 1, 2, 3, 50, api.MaxContext - 1, api.MaxContext}
}

// strangers are numbers that are no context.
func strangers() []int {
	return []int{
		-1, -2, -api.MaxContext, api.MaxContext + 1, api.MaxContext + 2, 256, api.MaxNumber, math.MinInt32,
		1 << 32, 1<<32 + 1, 1 - 1<<32, math.MaxInt/2 + 1, math.MinInt / 2, math.MaxInt, math.MaxInt - 1, math.MinInt, math.MinInt + 1,
	}
}

// told is something as it is told, of a long one its beginning.
func told(x any) string {
	return fmt.Sprintf("%.300s", fmt.Sprintf("%+v", x))
}

// checkGroup holds Group against what it must answer.
func checkGroup(t *testing.T, l []api.Change, n, m, context int, want [][]api.Change, code api.Errno) {
	t.Helper()
	groups, err := hunks.Group(l, n, m, context)
	if !slices.EqualFunc(groups, want, slices.Equal) || err != code {
		t.Errorf("%s from %d to %d lines, context %d: %s, %d, want %s, %d", told(l), n, m, context, told(groups), err, told(want), code)
	}
}

// checkMake holds Make against what it must answer.
func checkMake(t *testing.T, l []api.Change, a, b []string, context int, want []api.Hunk, code api.Errno) {
	t.Helper()
	made, err := hunks.Make(l, a, b, context)
	if !samples.SameHunks(made, want) || err != code {
		t.Errorf("%s of %s and %s, context %d: %s, %d, want %s, %d", told(l), told(a), told(b), context, told(made), err, told(want), code)
	}
}

// groupByWords is the groups of a script out of signs, by the chapter's words: all runs of kept lines between changes are looked at.
func groupByWords(signs string, context int) [][]api.Change {
	l := samples.Script(signs)
	if len(l) == 0 {
		return nil
	}
	groups := [][]api.Change{l[:1]}
	for i, run := range strings.FieldsFunc(strings.Trim(signs, "="), func(sign rune) bool { return sign != '=' }) {
		if len(run) > 2*context {
			groups = append(groups, l[i+1:i+2])
			continue
		}
		last := &groups[len(groups)-1]
		*last = slices.Concat(*last, l[i+1:i+2])
	}
	return groups
}

// near tells whether a line is changed, or a changed one is at most context lines off.
func near(signs string, at, context int) bool {
	return strings.Trim(signs[max(at-context, 0):min(at+context+1, len(signs))], "=") != ""
}

// tidy is signs with those that take out ahead of those that put in, in each piece.
func tidy(signs string) string {
	for strings.Contains(signs, "+-") {
		signs = strings.ReplaceAll(signs, "+-", "-+")
	}
	return signs
}

// makeByWords is the hunks of a script out of signs: all that is near a change is shown, and what is shown without a gap is a hunk.
func makeByWords(signs string, a, b []string, context int) []api.Hunk {
	var l []api.Hunk
	i, j, open := 0, 0, false
	signs = tidy(signs)
	for at, sign := range []byte(signs) {
		shown := near(signs, at, context)
		if shown && !open {
			l = append(l, api.Hunk{A: i, B: j})
		}
		open = shown
		mark := api.Mark{Sign: ' '}
		if sign == '+' {
			mark.Text = b[j]
		} else {
			mark.Text = a[i]
		}
		if sign != '=' {
			mark.Sign = sign
		}
		isOld, isNew := strings.Count("=-", string(sign)), strings.Count("=+", string(sign))
		i, j = i+isOld, j+isNew
		if shown {
			h := &l[len(l)-1]
			h.Lines, h.AN, h.BN = append(h.Lines, mark), h.AN+isOld, h.BN+isNew
		}
	}
	for at := range l {
		if l[at].AN > 0 {
			l[at].A++
		}
		if l[at].BN > 0 {
			l[at].B++
		}
	}
	return l
}

// checkByWords holds Group and Make against the chapter's words.
func checkByWords(t *testing.T, signs string, context int) {
	t.Helper()
	a, b := samples.Pair(signs)
	l := samples.Script(signs)
	checkGroup(t, l, len(a), len(b), context, groupByWords(signs, context), api.OK)
	checkMake(t, l, a, b, context, makeByWords(signs, a, b, context), api.OK)
}

// kept is signs of n lines that are kept.
func kept(n int) string { return strings.Repeat("=", n) }

// Promises 11.1 and 11.2.

func TestMakeOfTheChaptersExample(t *testing.T) {
	a := []string{"1\n", "2\n", "3\n", "4\n", "5\n", "6\n"}
	b := []string{"1\n", "3\n", "4\n", "5\n", "x\n", "6\n"}
	l := rows{{1, 1, 1, 0}, {5, 0, 4, 1}}.Changes()
	checkMake(t, l, a, b, 1, []api.Hunk{
		samples.Hunk([4]int{1, 3, 1, 2}, " 1\n", "-2\n", " 3\n"),
		samples.Hunk([4]int{5, 2, 4, 3}, " 5\n", "+x\n", " 6\n"),
	}, api.OK)
	checkMake(t, l, a, b, 2, []api.Hunk{
		samples.Hunk([4]int{1, 6, 1, 6}, " 1\n", "-2\n", " 3\n", " 4\n", " 5\n", "+x\n", " 6\n"),
	}, api.OK)
	checkMake(t, l, a, b, 0, []api.Hunk{
		samples.Hunk([4]int{2, 1, 1, 0}, "-2\n"),
		samples.Hunk([4]int{5, 0, 5, 1}, "+x\n"),
	}, api.OK)
	checkGroup(t, l, 6, 6, 1, [][]api.Change{l[:1], l[1:]}, api.OK)
	checkGroup(t, l, 6, 6, 2, [][]api.Change{l}, api.OK)
}

func TestGroupsGoByTwiceContext(t *testing.T) {
	for _, context := range contexts() {
		for _, piece := range []string{"-", "+", "-+", "--", "++", "--+"} {
			for _, other := range []string{"-", "+", "-+"} {
				for between := max(2*context-2, 1); between <= 2*context+2; between++ {
					signs := piece + kept(between) + other
					n, m := len(signs)-strings.Count(signs, "+"), len(signs)-strings.Count(signs, "-")
					l := samples.Script(signs)
					want := [][]api.Change{l}
					if between > 2*context {
						want = [][]api.Change{l[:1], l[1:]}
					}
					checkGroup(t, l, n, m, context, want, api.OK)
				}
			}
		}
	}
}

// Of three changes each is held against the one ahead of it, not against the first one of the group.
func TestGroupsGoByTheChangeAhead(t *testing.T) {
	l := rows{{0, 1, 0, 1}, {3, 1, 3, 1}, {6, 1, 6, 1}, {10, 1, 10, 1}, {13, 9, 13, 0}, {24, 0, 15, 7}}.Changes()
	checkGroup(t, l, 24, 22, 1, [][]api.Change{l[:3], l[3:]}, api.OK)
	checkGroup(t, l, 24, 22, 0, [][]api.Change{l[:1], l[1:2], l[2:3], l[3:4], l[4:5], l[5:]}, api.OK)
	checkGroup(t, l, 24, 22, 2, [][]api.Change{l}, api.OK)
}

func TestGroupOfNoChangesAndOne(t *testing.T) {
	for _, context := range contexts() {
		for _, n := range []int{0, 1, 7, api.MaxNumber, math.MaxInt} {
			checkGroup(t, nil, n, n, context, nil, api.OK)
			checkGroup(t, []api.Change{}, n, n, context, nil, api.OK)
		}
		for _, row := range (rows{{0, 1, 0, 0}, {0, 0, 0, 1}, {5, 1, 5, 0}, {5, 2, 5, 3}, {9, 1, 9, 1}}) {
			l := rows{row}.Changes()
			checkGroup(t, l, 10, 10-row[1]+row[3], context, [][]api.Change{l}, api.OK)
		}
	}
}

// A few changes may be of very long texts.
func TestGroupOfLongTexts(t *testing.T) {
	const top = api.MaxNumber
	l := rows{{0, top, 0, 1}, {top, 0, 1, top - 1}}.Changes()
	checkGroup(t, l, top, top, 100, nil, api.ErrScript)
	l = rows{{0, top - 1, 0, 1}, {top, 1, 2, 0}}.Changes()
	checkGroup(t, l, math.MaxInt, math.MaxInt-top+1, 0, [][]api.Change{l[:1], l[1:]}, api.OK)
	checkGroup(t, l, math.MaxInt, math.MaxInt-top+1, 1, [][]api.Change{l}, api.OK)
	far := rows{{0, 1, 0, 1}, {top, top, top, top}}.Changes()
	checkGroup(t, far, math.MaxInt, math.MaxInt, 100, [][]api.Change{far[:1], far[1:]}, api.OK)
}

func TestWrongScriptsAreToldAheadOfTheContext(t *testing.T) {
	a, b := samples.Pair("====")
	for _, l := range samples.WrongScripts() {
		for _, context := range slices.Concat(contexts(), strangers()) {
			checkGroup(t, l, 4, 4, context, nil, api.ErrScript)
			checkMake(t, l, a, b, context, nil, api.ErrScript)
		}
	}
	right := rows{{0, 1, 0, 1}}.Changes()
	for _, n := range [][2]int{{-1, 4}, {4, -1}, {-1, -1}, {4, 3}, {3, 4}, {0, 0}, {math.MinInt, math.MinInt}, {math.MaxInt, 4}, {math.MinInt, math.MaxInt}} {
		for _, context := range []int{0, 100, 101, -1, math.MaxInt, math.MinInt} {
			checkGroup(t, right, n[0], n[1], context, nil, api.ErrScript)
		}
	}
	for _, context := range []int{0, 100, 101, -1, math.MaxInt, math.MinInt} {
		checkMake(t, right, a, b[1:], context, nil, api.ErrScript)
		checkMake(t, right, a[1:], b, context, nil, api.ErrScript)
		checkMake(t, right, nil, nil, context, nil, api.ErrScript)
		checkMake(t, nil, a, b[1:], context, nil, api.ErrScript)
		checkMake(t, nil, nil, b, context, nil, api.ErrScript)
	}
}

func TestContextsThatAreNone(t *testing.T) {
	for _, context := range strangers() {
		for _, signs := range []string{"", "=", "-", "+", "=-+=", "-==+" + kept(300) + "-"} {
			a, b := samples.Pair(signs)
			checkGroup(t, samples.Script(signs), len(a), len(b), context, nil, api.ErrRange)
			checkMake(t, samples.Script(signs), a, b, context, nil, api.ErrRange)
		}
	}
	for context := -300; context <= 300; context++ {
		want := api.OK
		if context < 0 || context > 100 {
			want = api.ErrRange
		}
		if _, err := hunks.Group(nil, 3, 3, context); err != want {
			t.Errorf("context %d: %d, want %d", context, err, want)
		}
	}
}

// makeCase is what is done with the lines of two texts, and the hunks of it.
type makeCase struct {
	name    string
	signs   string
	context int
	want    []api.Hunk
}

// makeCases are the edges of where changes may stand; the texts are those that samples.Pair makes.
func makeCases() []makeCase {
	return []makeCase{
		{"no lines at all", "", 3, nil},
		{"all is kept", "===", 3, nil},
		{"no old lines", "++", 3, []api.Hunk{samples.Hunk([4]int{0, 0, 1, 2}, "+b0\n", "+b1\n")}},
		{"no new lines", "--", 3, []api.Hunk{samples.Hunk([4]int{1, 2, 0, 0}, "-a0\n", "-a1\n")}},
		{"nothing is kept", "-+", 3, []api.Hunk{samples.Hunk([4]int{1, 1, 1, 1}, "-a0\n", "+b0\n")}},
		{"the first line goes", "-==", 1, []api.Hunk{samples.Hunk([4]int{1, 2, 1, 1}, "-a0\n", " a1\n")}},
		{"the first line goes, no context", "-==", 0, []api.Hunk{samples.Hunk([4]int{1, 1, 0, 0}, "-a0\n")}},
		{"ahead of all comes one", "+==", 1, []api.Hunk{samples.Hunk([4]int{1, 1, 1, 2}, "+b0\n", " a0\n")}},
		{"ahead of all comes one, no context", "+==", 0, []api.Hunk{samples.Hunk([4]int{0, 0, 1, 1}, "+b0\n")}},
		{"the last line goes", "==-", 1, []api.Hunk{samples.Hunk([4]int{2, 2, 2, 1}, " a1\n", "-a2\n")}},
		{"the last line goes, no context", "==-", 0, []api.Hunk{samples.Hunk([4]int{3, 1, 2, 0}, "-a2\n")}},
		{"behind all comes one", "==+", 1, []api.Hunk{samples.Hunk([4]int{2, 1, 2, 2}, " a1\n", "+b2\n")}},
		{"behind all comes one, no context", "==+", 0, []api.Hunk{samples.Hunk([4]int{2, 0, 3, 1}, "+b2\n")}},
		{"one goes between", "==-==", 1, []api.Hunk{samples.Hunk([4]int{2, 3, 2, 2}, " a1\n", "-a2\n", " a3\n")}},
		{"one comes between", "==+==", 1, []api.Hunk{samples.Hunk([4]int{2, 2, 2, 3}, " a1\n", "+b2\n", " a2\n")}},
		{"several go and come", "=--+++=", 1, []api.Hunk{samples.Hunk([4]int{1, 4, 1, 5}, " a0\n", "-a1\n", "-a2\n", "+b1\n", "+b2\n", "+b3\n", " a3\n")}},
		{"they go and come, no context", "=-+=", 0, []api.Hunk{samples.Hunk([4]int{2, 1, 2, 1}, "-a1\n", "+b1\n")}},
		{"fewer at the front", "=-===", 2, []api.Hunk{samples.Hunk([4]int{1, 4, 1, 3}, " a0\n", "-a1\n", " a2\n", " a3\n")}},
		{"fewer at the end", "===-=", 2, []api.Hunk{samples.Hunk([4]int{2, 4, 2, 3}, " a1\n", " a2\n", "-a3\n", " a4\n")}},
		{"fewer at both", "=-=", api.MaxContext, []api.Hunk{samples.Hunk([4]int{1, 3, 1, 2}, " a0\n", "-a1\n", " a2\n")}},
		{"just as many at both", "==-==", 2, []api.Hunk{samples.Hunk([4]int{1, 5, 1, 4}, " a0\n", " a1\n", "-a2\n", " a3\n", " a4\n")}},
		{"two that are near", "-==+", 1, []api.Hunk{samples.Hunk([4]int{1, 3, 1, 3}, "-a0\n", " a1\n", " a2\n", "+b2\n")}},
		{"two that are not", "-===+", 1, []api.Hunk{
			samples.Hunk([4]int{1, 2, 1, 1}, "-a0\n", " a1\n"),
			samples.Hunk([4]int{4, 1, 3, 2}, " a3\n", "+b3\n"),
		}},
		{"later ones go by both texts", "---===++===-", 0, []api.Hunk{
			samples.Hunk([4]int{1, 3, 0, 0}, "-a0\n", "-a1\n", "-a2\n"),
			samples.Hunk([4]int{6, 0, 4, 2}, "+b3\n", "+b4\n"),
			samples.Hunk([4]int{10, 1, 8, 0}, "-a9\n"),
		}},
	}
}

func TestMakeOfEdges(t *testing.T) {
	for _, c := range makeCases() {
		t.Run(c.name, func(t *testing.T) {
			a, b := samples.Pair(c.signs)
			checkMake(t, samples.Script(c.signs), a, b, c.context, c.want, api.OK)
			checkByWords(t, c.signs, c.context)
		})
	}
}

// Which bytes the lines have says nothing: they may be no lines at all.
func TestMakeOfAnyLines(t *testing.T) {
	checkMake(t, rows{{1, 1, 1, 1}}.Changes(), []string{"", "a\nb", "\n\n"}, []string{"x", "", "y"}, 1, []api.Hunk{
		samples.Hunk([4]int{1, 3, 1, 3}, " ", "-a\nb", "+", " \n\n"),
	}, api.OK)
	checkMake(t, rows{{1, 1, 1, 1}}.Changes(), []string{"A\n", "b"}, []string{"a\n", "b\n"}, 1, []api.Hunk{
		samples.Hunk([4]int{1, 2, 1, 2}, " A\n", "-b", "+b\n"),
	}, api.OK)
}

func TestGroupAndMakeOfAllShortTexts(t *testing.T) {
	samples.Texts("=-+", 8, func(signs string) {
		for context := range 4 {
			checkByWords(t, signs, context)
		}
	})
}

func TestGroupAndMakeOfLongerTexts(t *testing.T) {
	for _, context := range contexts() {
		for _, n := range []int{1, 2, 3, 4, 5, 99, 100, 101, 199, 200, 201, 202} {
			for _, m := range []int{1, 2, 3, 7, 99, 100, 101, 200, 201} {
				for _, signs := range []string{"-+", "--", "+"} {
					checkByWords(t, kept(n)+signs+kept(m)+"+"+kept(n)+"-"+kept(m), context)
					checkByWords(t, signs+kept(n)+"-+"+kept(m)+signs, context)
				}
			}
		}
	}
}

// More lines than a text may have that is compared, more hunks than a patch may have.
func TestGroupAndMakeHaveNoLimit(t *testing.T) {
	signs := strings.Repeat("-=+=-+=", api.MaxHunks)
	for _, context := range []int{0, 1} {
		checkByWords(t, signs, context)
	}
	l, err := hunks.Make(samples.Script("-"+kept(3*api.MaxLines)+"+"), samples.Named("a", 3*api.MaxLines+1), samples.Named("b", 3*api.MaxLines+1), 100)
	if err != api.OK || len(l) != 2 || len(l[0].Lines) != 101 || len(l[1].Lines) != 101 || l[1].A != 3*api.MaxLines-98 || l[1].B != 3*api.MaxLines-99 {
		t.Errorf("two changes far off: %s, %d", told(l), err)
	}
}

// Of a right script every change is in just one group, and in one hunk.
func TestGroupsTogetherAreTheScript(t *testing.T) {
	samples.Texts("=-+", 7, func(signs string) {
		a, b := samples.Pair(signs)
		l := samples.Script(signs)
		for context := range 3 {
			groups, _ := hunks.Group(l, len(a), len(b), context)
			made, _ := hunks.Make(l, a, b, context)
			if !slices.Equal(slices.Concat(groups...), l) || len(groups) != len(made) {
				t.Errorf("%s, context %d: groups %v, hunks %s", signs, context, groups, told(made))
			}
			for i, h := range made {
				if cost := edits.Cost(groups[i]); len(h.Lines) < cost || 2*len(h.Lines)-h.AN-h.BN != cost {
					t.Errorf("%s, context %d: %s has other changes than %v", signs, context, told(h), groups[i])
				}
			}
		}
	})
}

package unified_test

import (
	"strings"
	"testing"

	"redline/api"
	"redline/samples"
	"redline/unified"
)

// Promise 16.1.

// checkName holds Name against what it must answer, and Named of that against the name, if that is not too long.
func checkName(t *testing.T, name, want string) {
	t.Helper()
	if s := unified.Name(name); s != want {
		t.Errorf("%s stands as %s, want %s", told(name), told(s), told(want))
	}
	if len(name) > api.MaxName {
		checkNoName(t, want)
		return
	}
	if s, err := unified.Named(want); s != name || err != api.OK {
		t.Errorf("%s stands for %s, %d, want %s", told(want), told(s), err, told(name))
	}
}

// checkNoName says that s stands for no name.
func checkNoName(t *testing.T, s string) {
	t.Helper()
	if name, err := unified.Named(s); name != "" || err != api.ErrName {
		t.Errorf("%s stands for %s, %d", told(s), told(name), err)
	}
}

func TestNamesOfTheChaptersExamples(t *testing.T) {
	checkName(t, "a b", `"a b"`)
	checkName(t, "", "/dev/null")
	checkNoName(t, `a"b`)
}

func TestNamesOfAllKinds(t *testing.T) {
	for _, c := range samples.FileNames() {
		checkName(t, c.Name, c.Text)
	}
	for _, s := range samples.WrongNames() {
		checkNoName(t, s)
		checkNoName(t, s+"\n")
	}
	for _, s := range []string{"\n", "a\n", "\na", "\"a b\"\n", "\"a\nb\"", "/dev/null\n"} {
		checkNoName(t, s)
	}
}

// Name has no limit, Named has one.
func TestNamesThatAreLong(t *testing.T) {
	for _, n := range []int{api.MaxName - 1, api.MaxName, api.MaxName + 1, api.MaxName + 2, 1000, 1 << 20} {
		checkName(t, strings.Repeat("x", n), strings.Repeat("x", n))
		checkName(t, strings.Repeat("/", n), strings.Repeat("/", n))
		checkName(t, strings.Repeat(" ", n), `"`+strings.Repeat(" ", n)+`"`)
		checkName(t, strings.Repeat(`\`, n), strings.Repeat(`\`, n))
		checkName(t, strings.Repeat(`"`, n), `"`+strings.Repeat(`\22`, n)+`"`)
		checkName(t, strings.Repeat("\x00", n), `"`+strings.Repeat(`\00`, n)+`"`)
		checkName(t, strings.Repeat("x", n-1)+"\xff", `"`+strings.Repeat("x", n-1)+`\ff"`)
		checkName(t, " "+strings.Repeat("x", n-1), `" `+strings.Repeat("x", n-1)+`"`)
	}
}

// Every short text, as a name and as what stands for one, of bytes of each kind.
func TestNamesOfAllShortTexts(t *testing.T) {
	right := 0
	for _, alphabet := range []string{"\"\\ a0f", "\"\\25c \n", "\"\\\x00\xff0f"} {
		samples.Texts(alphabet, 6, func(s string) {
			checkName(t, s, samples.NameText(s))
			want, ok := samples.NameFrom(s)
			if !ok {
				checkNoName(t, s)
				return
			}
			right++
			checkName(t, want, s)
		})
	}
	if right < 1000 {
		t.Errorf("only %d of them stand for a name", right)
	}
}

// What is nearly the text of a name.
func TestNamesThatAreNearlyRight(t *testing.T) {
	for _, text := range []string{"/dev/null", `"/dev/null"`, "a/b", `"a b\22\ff\5c"`, `"` + strings.Repeat(`\00`, api.MaxName) + `"`} {
		for i := range len(text) {
			others := []string{text[:i], text[i:], text[:i] + text[i+1:], text[:i] + text[i:i+1] + text[i:], strings.ToUpper(text)}
			for c := range 256 {
				others = append(others, text[:i]+string([]byte{byte(c)})+text[i+1:], text[:i]+string([]byte{byte(c)})+text[i:], text+string([]byte{byte(c)}))
			}
			for _, s := range others {
				if want, ok := samples.NameFrom(s); ok {
					checkName(t, want, s)
				} else {
					checkNoName(t, s)
				}
			}
		}
	}
}

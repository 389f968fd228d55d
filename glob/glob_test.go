package glob

import (
	"strings"
	"testing"

	"penstock/api"
)

func TestCheck(t *testing.T) { // P2.1
	for p, want := range map[string]api.Errno{
		"":          api.OK,
		"a*b?c":     api.OK,
		"]-^":       api.OK, // themselves outside a set
		"日本\x00\n":  api.OK,
		"\ufffd":    api.OK,
		"a\xff":     api.ErrArg,
		"\xe6\x97":  api.ErrArg,
		"[\xff]":    api.ErrArg,
		`\`:         api.ErrArg,
		`ab\`:       api.ErrArg,
		`\\`:        api.OK,
		`\\\`:       api.ErrArg,
		`\*\?\[\]`:  api.OK,
		`\é`:        api.OK,
		`[`:         api.ErrArg, // sets that don't end
		`[a`:        api.ErrArg,
		`[a-`:       api.ErrArg,
		`[a-b`:      api.ErrArg,
		`[^`:        api.ErrArg,
		`[^a`:       api.ErrArg,
		`[-`:        api.ErrArg,
		`[a\]`:      api.ErrArg,
		`[a\`:       api.ErrArg,
		`[a]\`:      api.ErrArg,
		`[]`:        api.ErrArg, // empty sets
		`[]a]`:      api.ErrArg,
		`[^]`:       api.ErrArg,
		`[^]a]`:     api.ErrArg,
		`[a][]`:     api.ErrArg,
		`[a]`:       api.OK,
		`[a]]`:      api.OK,
		`[\]]`:      api.OK,
		`[[]`:       api.OK,
		`[*?[]`:     api.OK,
		`[a^]`:      api.OK,
		`[^^]`:      api.OK,
		`[\^]`:      api.OK,
		`[b-a]`:     api.ErrArg, // x above y
		`[日-é]`:     api.ErrArg,
		`[a-b日-é]`:  api.ErrArg,
		`[a-a]`:     api.OK,
		`[é-日]`:     api.OK,
		`[\a-\b]`:   api.OK,
		`[\b-\a]`:   api.ErrArg,
		`[Z-\]]`:    api.OK,
		`[a-\]]`:    api.ErrArg,
		`[-]`:       api.OK, // a `-` first, last, as the y
		`[^-]`:      api.OK,
		`[-a]`:      api.OK,
		`[^-a]`:     api.OK,
		`[a-]`:      api.OK,
		`[a-b-]`:    api.OK,
		`[--]`:      api.OK,
		`[---]`:     api.OK,
		`[----]`:    api.OK,
		`[-----]`:   api.ErrArg,
		`[--a]`:     api.OK,
		`[--+]`:     api.ErrArg,
		`[+--]`:     api.OK,
		`[+--a]`:    api.OK,
		`[+--a-]`:   api.OK,
		`[a--]`:     api.ErrArg,
		`[ab-c-d]`:  api.ErrArg,
		`[a-b-c]`:   api.ErrArg,
		`[a-b--]`:   api.ErrArg,
		`[a-b--c]`:  api.ErrArg,
		`[a-b\--c]`: api.OK,
		`[a\-b]`:    api.OK,
		`[+-\-]`:    api.OK,
	} {
		if got := Check(p); got != want {
			t.Errorf("Check(%q): %d", p, got)
		}
	}
}

func TestCheckLength(t *testing.T) { // P2.1
	for _, x := range []struct {
		p    string
		want api.Errno
	}{
		{strings.Repeat("日", 40), api.OK},
		{strings.Repeat("日", 41), api.ErrArg},
		{strings.Repeat("*", 40), api.OK},
		{strings.Repeat("*", 41), api.ErrArg},
		{strings.Repeat(`\a`, 20), api.OK}, // a `\` is a rune of the pattern, too
		{strings.Repeat(`\a`, 20) + "a", api.ErrArg},
		{"[" + strings.Repeat("a", 38) + "]", api.OK},
		{"[" + strings.Repeat("a", 39) + "]", api.ErrArg},
		{strings.Repeat("a", 1<<20), api.ErrArg},
	} {
		if got := Check(x.p); got != x.want {
			t.Errorf("Check(%.50q..): %d", x.p, got)
		}
	}
}

func TestMatch(t *testing.T) { // P2.2
	for _, x := range []struct {
		p, yes, no string // texts, with blanks between
	}{
		{"abc", "abc", "ab abcd abd Abc"},
		{"a?c", "abc a日c a?c", "ac abbc abcd"},
		{"a*", "a ab a日本", "ba b"},
		{"*a", "a ba aa", "ab"},
		{"a*[0-9]", "abc7 a0 a00", "abc a7b"},
		{"*ab*ab*", "abab abxab xabxabx", "aba abxa"},
		{"**?*", "a ab abc", ""},
		{"[a-ce]", "a b c e", "d f aa ["},
		{"[^a-ce]", "d f ^ 日", "a b c e dd"},
		{"[é-本]", "é 日 本", "è 札 e"},
		{"[^é]", "e 日", "é"},
		{`[\a-\c]`, "a b c", `\ - d`},
		{`[a\-c]`, "a - c", `b \`},
		{"[-a]", "- a", "b ."},
		{"[^-a]", "b .", "- a"},
		{"[a-]", "a -", "b ."},
		{"[a-c-]", "a b c -", "d"},
		{"[--/]", "- . /", ", 0"},
		{"[+--]", "+ , -", ". *"},
		{"[+--a]", "+ , - a", ". b"},
		{"[--]", "-", ", ."},
		{"[---]", "-", ", ."},
		{"[a^]", "a ^", "b"},
		{"[^^]", "a", "^"},
		{`[\^a]`, "a ^", "b"},
		{"[^^-a]", "b ]", "^ _ ` a"},
		{"[*?[]", "* ? [", "a ]"},
		{`[\]]`, "]", `[ \`},
		{`\*\?\[\\`, `*?[\`, `a?[\ \*\?\[\\`},
		{`\a\é`, "aé", `\a\é`},
		{"[a]]", "a]", "a ]"},
		{"A", "A", "a"},
	} {
		for _, s := range strings.Fields(x.yes) {
			if !Match(x.p, s) {
				t.Errorf("%q does not take %q", x.p, s)
			}
		}
		for _, s := range append(strings.Fields(x.no), "") {
			if Match(x.p, s) {
				t.Errorf("%q takes %q", x.p, s)
			}
		}
	}
}

func TestMatchWrong(t *testing.T) { // P2.2
	for _, x := range [][2]string{
		{"[", "["}, {`a\`, "a"}, {`a\`, `a\`}, {"[b-a]", "a"}, {"\xff", "\xff"}, {"*\xff", "a"},
		{"*", "\xff"}, {"?", "\x80"}, {"a*", "ab\xe6\x97"}, {"[^a]", "\xff"}, {"\ufffd", "\xff"},
		{strings.Repeat("a", 41), strings.Repeat("a", 41)},
	} {
		if Match(x[0], x[1]) {
			t.Errorf("%q takes %q", x[0], x[1])
		}
	}
}

// A kind of piece as the chapter words it, without regard to how one is read.
type kind struct {
	text  string
	many  bool
	takes string // of the alphabet
}

// letters is the alphabet of the texts below: marks of patterns, and runes between, around and among them.
const letters = "+,-a]^\\*[é"

// single are the pieces with no set.
func single() []kind {
	out := []kind{{text: "*", many: true}, {text: "?", takes: letters}}
	for _, r := range letters {
		out = append(out, kind{text: `\` + string(r), takes: string(r)})
		if !strings.ContainsRune(`*?[\`, r) {
			out = append(out, kind{text: string(r), takes: string(r)})
		}
	}
	return out
}

// items are what may stand in a set; a bare `-` is told apart: first and last alone have it.
func items(head, tail bool) []kind {
	var ends []kind
	for _, r := range letters {
		ends = append(ends, kind{text: `\` + string(r), takes: string(r)})
		if !strings.ContainsRune(`]-\`, r) {
			ends = append(ends, kind{text: string(r), takes: string(r)})
		}
	}
	dash := kind{text: "-", takes: "-"}
	out := ends
	if head || tail {
		out = append(out[:len(out):len(out)], dash)
	}
	from := ends
	if head {
		from = out
	}
	for _, x := range from {
		for _, y := range append(ends[:len(ends):len(ends)], dash) {
			takes := ""
			for _, r := range letters {
				if x.takes <= string(r) && string(r) <= y.takes { // UTF-8 has the order of the runes
					takes += string(r)
				}
			}
			if x.takes <= y.takes {
				out = append(out, kind{text: x.text + "-" + y.text, takes: takes})
			}
		}
	}
	return out
}

// sets are those of one item and two, of at most that many runes.
func sets(most int) []kind {
	var inner []kind
	inner = append(inner, items(true, true)...)
	tails := items(false, true)
	for _, x := range items(true, false) {
		for _, y := range tails {
			if len(x.text)+len(y.text) <= 2*most {
				inner = append(inner, kind{text: x.text + y.text, takes: x.takes + y.takes})
			}
		}
	}
	var out []kind
	for _, x := range inner {
		if !strings.HasPrefix(x.text, "^") {
			out = append(out, kind{text: "[" + x.text + "]", takes: x.takes})
		}
		rest := ""
		for _, r := range letters {
			if !strings.ContainsRune(x.takes, r) {
				rest += string(r)
			}
		}
		out = append(out, kind{text: "[^" + x.text + "]", takes: rest})
	}
	return out
}

func TestSets(t *testing.T) { // P2.2
	for _, x := range sets(8) {
		for _, r := range letters {
			if got := Match(x.text, string(r)); got != strings.ContainsRune(x.takes, r) {
				t.Fatalf("%q takes %q: %v", x.text, r, got)
			}
		}
	}
}

func TestNoOther(t *testing.T) { // P2.1
	const most = 5
	var made []kind
	for _, x := range append(single(), sets(most)...) {
		if len([]rune(x.text)) <= most {
			made = append(made, x)
		}
	}
	is := map[string]bool{}
	var join func(s string)
	join = func(s string) {
		is[s] = true
		for _, x := range made {
			if n := len([]rune(s + x.text)); n <= most && !is[s+x.text] {
				join(s + x.text)
			}
		}
	}
	join("")
	// A set of three items fits as well: one rune each.
	ones := []string{"+", ",", "a", "^", "*", "[", "é"}
	for _, a := range append([]string{"-"}, ones...) {
		for _, b := range ones {
			for _, c := range append([]string{"-"}, ones...) {
				is["["+a+b+c+"]"] = true
			}
		}
	}
	var all func(s string, left int)
	all = func(s string, left int) {
		if got := Check(s) == api.OK; got != is[s] {
			t.Errorf("Check(%q): %v", s, got)
		}
		for _, r := range letters {
			if left > 0 && !t.Failed() {
				all(s+string(r), left-1)
			}
		}
	}
	all("", most)
}

// slow tells whether the pieces take all of s by trying each way.
func slow(ps []kind, s string) bool {
	if len(ps) == 0 {
		return s == ""
	}
	if ps[0].many && slow(ps[1:], s) {
		return true
	}
	for _, r := range s {
		tail := s[len(string(r)):]
		if ps[0].many {
			return slow(ps, tail)
		}
		return strings.ContainsRune(ps[0].takes, r) && slow(ps[1:], tail)
	}
	return false
}

func TestAllShort(t *testing.T) { // P2.2
	parts := []kind{
		{text: "*", many: true}, {text: "?", takes: "aé"}, {text: "a", takes: "a"},
		{text: "[b-é]", takes: "é"}, {text: "[^é]", takes: "a"},
	}
	var texts []string
	var grow func(s string, left int)
	grow = func(s string, left int) {
		texts = append(texts, s)
		if left > 0 {
			grow(s+"a", left-1)
			grow(s+"é", left-1)
		}
	}
	grow("", 6)
	var try func(ps []kind, p string)
	try = func(ps []kind, p string) {
		for _, s := range texts {
			if got := Match(p, s); got != slow(ps, s) {
				t.Fatalf("Match(%q, %q): %v", p, s, got)
			}
		}
		for _, x := range parts {
			if len(ps) < 4 {
				try(append(ps[:len(ps):len(ps)], x), p+x.text)
			}
		}
	}
	try(nil, "")
}

func TestItself(t *testing.T) { // P2.3
	texts := []string{"", "a", "]", "^a]", "a-b", "日本", "a\nb", "stream/1.x_y", strings.Repeat("z", 40)}
	for _, p := range texts {
		for _, s := range texts {
			if Match(p, s) != (p == s) {
				t.Errorf("Match(%q, %q)", p, s)
			}
		}
		if Match(p, p+"a") || Match(p, "a"+p) {
			t.Errorf("%q takes more", p)
		}
		if !Match("*", p) {
			t.Errorf("* does not take %q", p)
		}
	}
	if long := strings.Repeat("日\x00", 1<<16); !Match("*", long) || !Match("日*", long) {
		t.Error("* does not take a long text")
	}
}

func TestEndsSoon(t *testing.T) { // P2.3
	long := strings.Repeat("a", 1<<18)
	for _, x := range []struct {
		p    string
		want bool
	}{
		{strings.Repeat("*a", 20), true},
		{strings.Repeat("*a", 19) + "*b", false},
		{strings.Repeat("*", 40), true},
		{strings.Repeat("*", 39) + "b", false},
		{strings.Repeat("?*", 20), true},
		{strings.Repeat("*[^b]", 7) + "b", false},
	} {
		if got := Match(x.p, long); got != x.want {
			t.Errorf("Match(%q, a..): %v", x.p, got)
		}
	}
}

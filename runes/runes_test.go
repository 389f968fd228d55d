package runes

import (
	"math"
	"strings"
	"testing"
	"unicode/utf8"
)

// edges are bytes at which the classes of runes, and the forms of UTF-8, begin and end.
const edges = "\x00\n\x1f \"09AZ\\anxz\x7f\x80\x8f\x90\x9f\xa0\xa1\xa9\xbf\xc0\xc1\xc2\xc3\xdf\xe0\xed\xef\xf0\xf4\xf5\xff"

// forms are bytes of which the longest forms of UTF-8 are made, and what only looks like them.
const forms = "a\x80\x8f\x90\xbf\xed\xef\xf0\xf4"

// each calls f with every text of at most that many bytes of set.
func each(set string, most int, f func(s string)) {
	texts := []string{""}
	for n := 0; ; n++ {
		var longer []string
		for _, s := range texts {
			f(s)
			for i := 0; n < most && i < len(set); i++ {
				longer = append(longer, s+set[i:i+1])
			}
		}
		if n == most {
			return
		}
		texts = longer
	}
}

func TestValid(t *testing.T) { // P1.1
	for s, want := range map[string]bool{
		"":                         true,
		"plain":                    true,
		"\x00\x7f":                 true,
		"\u0080\u07ff":             true,
		"\u0800\ud7ff\ue000\uffff": true,
		"\U00010000\U0010ffff":     true,
		"\ufffd":                   true, // the rune itself is no fault
		"a\ufffd\ufffdz":           true,
		"\x80":                     false,
		"a\xffz":                   false,
		"\ufffd\xff":               false,
		"\xc0\x80":                 false, // longer than the shortest form
		"\xc1\xbf":                 false,
		"\xe0\x9f\xbf":             false,
		"\xf0\x8f\xbf\xbf":         false,
		"\xed\xa0\x80":             false, // surrogates
		"\xed\xbf\xbf":             false,
		"\xf4\x90\x80\x80":         false, // above 10FFFF
		"\xf5\x80\x80\x80":         false,
		"\xef":                     false, // cut short
		"\xef\xbf":                 false,
		"\xef\xbf\xbc\xef\xbf":     false,
		"\xf4\x8f\xbf":             false,
	} {
		if Valid(s) != want {
			t.Errorf("Valid(%q): %v", s, !want)
		}
	}
	check := func(s string) {
		if Valid(s) != utf8.ValidString(s) {
			t.Errorf("Valid(%q): %v", s, Valid(s))
		}
	}
	each(edges, 3, check)
	each(forms, 5, check)
}

func TestCount(t *testing.T) { // P1.1
	for s, want := range map[string]int{
		"":                       0,
		"a":                      1,
		"aé":                     2,
		"日本\U0010ffff":           3,
		"\xff":                   1,
		"\ufffd":                 1,
		"\xed\xa0\x80":           3,
		"\xf4\x90\x80\x80":       4,
		"\xe6\x97a":              3,
		strings.Repeat("é", 999): 999,
	} {
		if Count(s) != want {
			t.Errorf("Count(%q): %d, not %d", s, Count(s), want)
		}
	}
	check := func(s string) {
		if Count(s) != utf8.RuneCountInString(s) {
			t.Errorf("Count(%q): %d", s, Count(s))
		}
	}
	each(edges, 3, check)
	each(forms, 5, check)
}

func TestAt(t *testing.T) { // P1.1
	s := "aé\xff\ufffd日\xe6\x97\U0010ffff"
	for k, want := range []struct {
		r  rune
		at int
	}{{'a', 0}, {'é', 1}, {0xFFFD, 3}, {0xFFFD, 4}, {'日', 7}, {0xFFFD, 10}, {0xFFFD, 11}, {0x10FFFF, 12}} {
		if r, at, ok := At(s, k); r != want.r || at != want.at || !ok {
			t.Errorf("At(%q, %d): %x, %d, %v", s, k, r, at, ok)
		}
	}
	for _, k := range []int{8, 9, -1, math.MaxInt, math.MinInt} {
		if r, at, ok := At(s, k); r != 0 || at != 0 || ok {
			t.Errorf("At(%q, %d): %x, %d, %v", s, k, r, at, ok)
		}
	}
	if r, at, ok := At("", 0); r != 0 || at != 0 || ok {
		t.Errorf("At of the empty text: %x, %d, %v", r, at, ok)
	}
	if r, at, ok := At("\x00", 0); r != 0 || at != 0 || !ok {
		t.Errorf("At of a nought: %x, %d, %v", r, at, ok)
	}
}

// TestClasses holds each rune that there is, alone in a text, against the classes of P1.2.
func TestClasses(t *testing.T) { // P1.2
	const ascii = "abcdefghijklmnopqrstuvwxyzABCDEFGHIJKLMNOPQRSTUVWXYZ0123456789-_./"
	for r := rune(0); r <= utf8.MaxRune; r++ {
		if !utf8.ValidRune(r) {
			continue
		}
		s := string(r)
		if want := strings.ContainsRune(ascii, r) || r >= 0xA1; Name(s) != want {
			t.Errorf("Name(%q): %v", s, !want)
		}
		if want := r >= 0x20 && r != 0x7F; Key(s) != want {
			t.Errorf("Key(%q): %v", s, !want)
		}
	}
}

func TestNameAndKey(t *testing.T) { // P1.2
	for s, want := range map[string]struct{ name, key bool }{
		"":                                 {false, true},
		"orders/2026-11.new_":              {true, true},
		"日本\ufffd":                         {true, true},
		"two words":                        {false, true},
		"a\u00a0":                          {false, true},
		"a\n":                              {false, false},
		"a\x7fb":                           {false, false},
		"a\xff":                            {false, false},
		"\xff":                             {false, false},
		"\xed\xa0\x80":                     {false, false},
		"\xe6\x97":                         {false, false},
		strings.Repeat("a", 40):            {true, true},
		strings.Repeat("a", 41):            {false, false},
		strings.Repeat("\U0010ffff", 40):   {true, true},
		strings.Repeat("é", 41):            {false, false},
		strings.Repeat("é", 40) + "\xff":   {false, false},
		strings.Repeat("é", 39) + "\xff":   {false, false},
		strings.Repeat("é", 39) + " ":      {false, true},
		" " + strings.Repeat("é", 39):      {false, true},
		strings.Repeat(" ", 41):            {false, false},
		strings.Repeat("a", 40) + "\n":     {false, false},
		"\n" + strings.Repeat("a", 39):     {false, false},
		strings.Repeat("long", 100000):     {false, false},
		strings.Repeat("a", 39) + "\ufffd": {true, true},
	} {
		if Name(s) != want.name {
			t.Errorf("Name(%.200q): %v", s, !want.name)
		}
		if Key(s) != want.key {
			t.Errorf("Key(%.200q): %v", s, !want.key)
		}
	}
}

func TestFold(t *testing.T) { // P1.3
	for s, want := range map[string]string{
		"":                             "",
		"ABCXYZ":                       "abcxyz",
		"@AZ[`az{":                     "@az[`az{",
		"éÉİK\u212a\u0130":             "éÉİk\u212a\u0130", // no letters but A to Z
		"A\xffB\xc3C\xed\xa0\x80D":     "a\xffb\xc3c\xed\xa0\x80d",
		"\ufffdÅ\U0010ffffQ":           "\ufffdÅ\U0010ffffq",
		"09-_./\x00\n\x7f":             "09-_./\x00\n\x7f",
		"\xc1\xc1A":                    "\xc1\xc1a",
		strings.Repeat("Long\xff", 99): strings.Repeat("long\xff", 99),
	} {
		if Fold(s) != want {
			t.Errorf("Fold(%q): %q", s, Fold(s))
		}
	}
}

func TestCut(t *testing.T) { // P1.3
	s := "aé\xff\xfe日"
	for n, want := range map[int]string{
		math.MinInt: "",
		-1:          "",
		0:           "",
		1:           "a",
		2:           "aé",
		3:           "aé\xff",
		4:           "aé\xff\xfe",
		5:           s,
		6:           s,
		math.MaxInt: s,
	} {
		if Cut(s, n) != want {
			t.Errorf("Cut(%q, %d): %q", s, n, Cut(s, n))
		}
	}
	for _, n := range []int{-1, 0, 1} {
		if Cut("", n) != "" {
			t.Errorf("Cut of the empty text, %d: %q", n, Cut("", n))
		}
	}
}

func TestQuote(t *testing.T) { // P1.4
	for s, want := range map[string]string{
		"":                      `""`,
		"a":                     `"a"`,
		"a\xff":                 `"a\xff"`,
		`say "no\yes"`:          `"say \"no\\yes\""`,
		"one\ntwo\r\t":          `"one\ntwo\x0d\x09"`,
		"\x00\x09\x0b\x1f\x7f ": `"\x00\x09\x0b\x1f\x7f "`,
		"é日\U0010ffff":          "\"é日\U0010ffff\"",
		"\u0080\u009f\u00a0":    "\"\u0080\u009f\u00a0\"",
		"\ufffd\u2028\ufeff":    "\"\ufffd\u2028\ufeff\"",
		"\xed\xa0\x80":          `"\xed\xa0\x80"`,
		"\xe6\x97\"":            `"\xe6\x97\""`,
		"\xc0\x80":              `"\xc0\x80"`,
		`\xff`:                  `"\\xff"`,
		`\n`:                    `"\\n"`,
		"'`":                    "\"'`\"",
	} {
		if Quote(s) != want {
			t.Errorf("Quote(%q): %s", s, Quote(s))
		}
		if got, ok := Unquote(want); got != s || !ok {
			t.Errorf("Unquote(%s): %q, %v", want, got, ok)
		}
	}
}

func TestUnquoteRefuses(t *testing.T) { // P1.4
	for _, s := range []string{
		"", `"`, `a`, `"a`, `a"`, `'a'`, ` "a"`, `"a" `, `"a"b`, `"a""b"`, // not from mark to mark
		`"""`, `"a"b"`, // a mark within
		`"\"`, `"\\\"`, `"a\`, // an escape that takes the last mark
		`"\`, `\"`, `\`,
		`"\a"`, `"\t"`, `"\r"`, `"\'"`, `"\N"`, `"\X00"`, `"\u00e9"`, `"\é"`, `"\` + "\n" + `"`, `"\` + "\xff" + `"`, // no escapes of these
		`"\x"`, `"\x0"`, `"\x0g"`, `"\xg0"`, `"\x 0"`, `"\x+1"`, `"\x0é"`, `"\x1_"`, // no two digits
		`"\xFF"`, `"\xfF"`, `"\xFf"`, `"\x1F"`, // no small ones
		`"\x41"`, `"\x20"`, `"\x22"`, `"\x5c"`, `"\x0a"`, `"\x7e"`, // of runes that are not written so
		`"\xc3\xa9"`, `"\xef\xbf\xbd"`, `"a\xf4\x8f\xbf\xbf"`, // together a rune
		"\"\n\"", "\"\x00\"", "\"\x1f\"", "\"\t\"", "\"\x7f\"", // as they are
		"\"\xff\"", "\"a\xc3\"", "\"\xed\xa0\x80\"", `"\xff` + "\xff" + `"`, `"\xc3` + "\xa9" + `"`, "\"\xc3" + `\xa9"`,
	} {
		if got, ok := Unquote(s); got != "" || ok {
			t.Errorf("Unquote(%q): %q, %v", s, got, ok)
		}
	}
}

// TestUnquoteIsTheWayBack holds against Quote whatever Unquote takes: with TestFollows this says of each such text what it is.
func TestUnquoteIsTheWayBack(t *testing.T) { // P1.4
	taken := 0
	each("\"\\nx0af\n\xc3\xa9", 5, func(s string) {
		for _, q := range []string{s, `"` + s + `"`} {
			got, ok := Unquote(q)
			if ok && Quote(got) != q || !ok && got != "" {
				t.Errorf("Unquote(%q): %q, %v", q, got, ok)
			}
			if ok {
				taken++
			}
		}
	})
	if taken == 0 {
		t.Error("Unquote takes nothing")
	}
}

func TestFollows(t *testing.T) { // P1.5
	check := func(s string) {
		t.Helper()
		for n := -1; n <= Count(s)+1; n++ {
			head := Cut(s, n)
			if !strings.HasPrefix(s, head) {
				t.Fatalf("Cut(%q, %d): %q", s, n, head)
			}
			// A cut within a rune would leave more runes than there were.
			if want := min(max(n, 0), Count(s)); Count(head) != want || Count(s[len(head):]) != Count(s)-want {
				t.Errorf("Cut(%q, %d): %q", s, n, head)
			}
		}
		if got, ok := Unquote(Quote(s)); got != s || !ok {
			t.Errorf("Unquote(Quote(%q)): %q, %v", s, got, ok)
		}
		if !Valid(Quote(s)) {
			t.Errorf("Quote(%q) is not Valid", s)
		}
		if Valid(Fold(s)) != Valid(s) || len(Fold(s)) != len(s) || Fold(Fold(s)) != Fold(s) {
			t.Errorf("Fold(%q): %q", s, Fold(s))
		}
	}
	each(edges, 3, check)
	each(forms, 4, check)
	for _, s := range []string{"A\U0010ffffB\xf4\x8f\xbf", "日本語\xe6\x97", strings.Repeat("aé\xff\"\\\n", 50)} {
		check(s)
	}
}

// Package runes is texts as runes: see DOC.md, chapter 1.
package runes

import (
	"strings"

	"penstock/api"
)

// lost is the rune that a range tells of a byte that begins no valid sequence.
const lost = '\uFFFD'

// digits are the hex digits of a Quote.
const digits = "0123456789abcdef"

// Valid tells whether a text is UTF-8.
func Valid(s string) bool {
	for at, r := range s {
		if broken(s, at, r) {
			return false
		}
	}
	return true
}

// Count counts runes.
func Count(s string) int {
	n := 0
	for range s {
		n++
	}
	return n
}

// At is a rune, and where it begins.
func At(s string, k int) (r rune, at int, ok bool) {
	n := 0
	for i, x := range s {
		if n == k {
			return x, i, true
		}
		n++
	}
	return 0, 0, false
}

// Name tells whether a stream may be called so.
func Name(s string) bool {
	return s != "" && made(s, api.MaxName, nameRune)
}

// Key tells whether a text may be a key.
func Key(s string) bool {
	return made(s, api.MaxKey, keyRune)
}

// Fold makes letters small.
func Fold(s string) string {
	b := []byte(s)
	for at, r := range s {
		if 'A' <= r && r <= 'Z' {
			b[at] = byte(r - 'A' + 'a')
		}
	}
	return string(b)
}

// Cut is the first runes.
func Cut(s string, n int) string {
	k := 0
	for at := range s {
		if k >= n {
			return strings.Clone(s[:at])
		}
		k++
	}
	return strings.Clone(s)
}

// Quote writes a text.
func Quote(s string) string {
	var b strings.Builder
	b.WriteByte('"')
	for at, r := range s {
		switch {
		case r == '"' || r == '\\':
			b.WriteByte('\\')
			b.WriteRune(r)
		case r == '\n':
			b.WriteString(`\n`)
		case r < 0x20 || r == 0x7F || broken(s, at, r):
			b.WriteString(`\x`)
			b.WriteByte(digits[s[at]>>4])
			b.WriteByte(digits[s[at]&15])
		default:
			b.WriteRune(r)
		}
	}
	b.WriteByte('"')
	return b.String()
}

// Unquote reads one.
func Unquote(s string) (string, bool) {
	if len(s) < 2 || s[0] != '"' || s[len(s)-1] != '"' {
		return "", false
	}
	t, ok := plain(s[1 : len(s)-1])
	// plain also takes what no Quote writes, such as \x41: only the way back tells.
	if !ok || Quote(t) != s {
		return "", false
	}
	return t, true
}

// broken tells whether the rune r at s[at] stands for a byte that begins no valid sequence, not for itself.
func broken(s string, at int, r rune) bool {
	return r == lost && !strings.HasPrefix(s[at:], string(lost))
}

// made tells whether a text is Valid, and at most so many runes, of which each may be there.
func made(s string, most int, may func(r rune) bool) bool {
	n := 0
	for at, r := range s {
		n++
		if n > most || broken(s, at, r) || !may(r) {
			return false
		}
	}
	return true
}

func nameRune(r rune) bool {
	switch {
	case 'a' <= r && r <= 'z', 'A' <= r && r <= 'Z', '0' <= r && r <= '9':
		return true
	case r == '-', r == '_', r == '.', r == '/':
		return true
	}
	return r >= 0xA1
}

func keyRune(r rune) bool {
	return r >= 0x20 && r != 0x7F
}

// plain is the text that stands between the marks of a Quote; false, if a `\` there begins nothing.
func plain(s string) (string, bool) {
	var b strings.Builder
	next := 0 // what lies ahead of it is read
	for at, r := range s {
		if at < next {
			continue
		}
		switch {
		case r == '\\':
			c, n := escaped(s[at:])
			if n == 0 {
				return "", false
			}
			b.WriteByte(c)
			next = at + n
		case broken(s, at, r): // would be written as a rune of its own
			return "", false
		default:
			b.WriteRune(r)
		}
	}
	return b.String(), true
}

// escaped is the byte for which the `\` at the head of s stands, with what follows it, and how many bytes these are; 0, if it stands for none.
func escaped(s string) (c byte, n int) {
	if len(s) < 2 {
		return 0, 0
	}
	switch s[1] {
	case '"', '\\':
		return s[1], 2
	case 'n':
		return '\n', 2
	case 'x':
		if len(s) < 4 {
			return 0, 0
		}
		high, low := strings.IndexByte(digits, s[2]), strings.IndexByte(digits, s[3])
		if high >= 0 && low >= 0 {
			return byte(high<<4 | low), 4
		}
	}
	return 0, 0
}

package bits

import (
	"bytes"
	"encoding/binary"
	"hash/fnv"
	"math"
	"slices"
	"strings"
	"testing"
)

// edges are numbers at which a group, or a sign, begins and ends.
func edges() []uint64 {
	out := []uint64{0, 300, math.MaxUint64}
	for k := range 64 {
		out = append(out, 1<<k-1, 1<<k, 1<<k+1, math.MaxUint64-1<<k, 0x5555555555555555>>k, 0xAAAAAAAAAAAAAAAA>>k)
	}
	return out
}

func TestVarint(t *testing.T) { // P3.1
	for v, want := range map[uint64]string{
		0:                  "\x00",
		1:                  "\x01",
		127:                "\x7f",
		128:                "\x80\x01",
		300:                "\xac\x02",
		16383:              "\xff\x7f",
		16384:              "\x80\x80\x01",
		math.MaxInt64:      "\xff\xff\xff\xff\xff\xff\xff\xff\x7f",
		1 << 63:            "\x80\x80\x80\x80\x80\x80\x80\x80\x80\x01",
		math.MaxUint64:     "\xff\xff\xff\xff\xff\xff\xff\xff\xff\x01",
		math.MaxUint64 - 1: "\xfe\xff\xff\xff\xff\xff\xff\xff\xff\x01",
	} {
		if got := Varint(v); string(got) != want {
			t.Errorf("Varint(%d): % x", v, got)
		}
	}
	for _, v := range edges() {
		if got := Varint(v); !bytes.Equal(got, binary.AppendUvarint(nil, v)) {
			t.Errorf("Varint(%d): % x", v, got)
		}
	}
}

func TestUnvarint(t *testing.T) { // P3.1
	full := strings.Repeat("\xff", 9)
	none := strings.Repeat("\x80", 9)
	for _, x := range []struct {
		b string
		v uint64
		n int
	}{
		{"\x00", 0, 1}, // 0, as its first byte, is a number
		{"\x00\x00", 0, 1},
		{"\x7f\xff", 127, 1},
		{"\xac\x02", 300, 2},
		{"\xac\x02\x80", 300, 2},
		{"\x80\x80\x01", 1 << 14, 3}, // groups of 0 within it may be
		{none + "\x01", 1 << 63, 10},
		{full + "\x01", math.MaxUint64, 10},
		{full + "\x01\xff", math.MaxUint64, 10},
		{"", 0, 0}, // ends within it
		{"\x80", 0, 0},
		{"\xff\xff", 0, 0},
		{full, 0, 0},
		{none, 0, 0},
		{"\x80\x00", 0, 0}, // a last byte that is 0
		{"\xac\x00", 0, 0},
		{"\xac\x82\x00", 0, 0},
		{"\xac\x80\x00\x01", 0, 0},
		{full + "\x00", 0, 0},
		{none + "\x00", 0, 0},
		{full + "\x02", 0, 0}, // a tenth above 1
		{none + "\x02", 0, 0},
		{none + "\x7f", 0, 0},
		{full + "\x80", 0, 0},
		{full + "\x81", 0, 0},
		{none + "\x80\x00", 0, 0}, // more than ten
		{none + "\x80\x01", 0, 0},
		{none + "\x81\x01", 0, 0},
		{full + "\xff\x01", 0, 0},
		{strings.Repeat("\x80", 1000) + "\x01", 0, 0},
		{strings.Repeat("\xff", 1000), 0, 0},
	} {
		if v, n := Unvarint([]byte(x.b)); v != x.v || n != x.n {
			t.Errorf("Unvarint(% x): %d, %d", x.b, v, n)
		}
	}
	if v, n := Unvarint(nil); v != 0 || n != 0 {
		t.Errorf("Unvarint(nil): %d, %d", v, n)
	}
}

// TestUnvarintAll holds Unvarint against a look-up: the one number whose bytes begin b.
func TestUnvarintAll(t *testing.T) { // P3.1, P3.5
	var all func(b []byte, left int)
	all = func(b []byte, left int) {
		v, n := Unvarint(b)
		wantV, wantN := binary.Uvarint(b)
		if wantN <= 0 || !bytes.Equal(binary.AppendUvarint(nil, wantV), b[:wantN]) {
			wantV, wantN = 0, 0
		}
		if v != wantV || n != wantN {
			t.Errorf("Unvarint(% x): %d, %d", b, v, n)
		}
		if left == 0 {
			return
		}
		for _, c := range []byte{0, 1, 2, 127, 128, 129, 255} {
			all(append(b[:len(b):len(b)], c), left-1)
		}
	}
	for _, c := range []byte{128, 129, 255} {
		for k := range 10 {
			all(bytes.Repeat([]byte{c}, k), 4)
		}
	}
}

func TestVarintBack(t *testing.T) { // P3.1, P3.5
	for _, v := range edges() {
		b := Varint(v)
		for _, tail := range []string{"", "\x00", "\x01", "\xff\xff"} {
			if w, n := Unvarint(append(b[:len(b):len(b)], tail...)); w != v || n != len(b) {
				t.Errorf("%d behind Varint: %d, %d", v, w, n)
			}
		}
		for k := range b {
			if w, n := Unvarint(b[:k]); w != 0 || n != 0 {
				t.Errorf("%d cut at %d: %d, %d", v, k, w, n)
			}
		}
	}
}

func TestZig(t *testing.T) { // P3.2
	for n, want := range map[int]uint64{
		0:                 0,
		-1:                1,
		1:                 2,
		-2:                3,
		2:                 4,
		1000:              2000,
		-1000:             1999,
		1<<62 - 1:         1<<63 - 2,
		1 << 62:           1 << 63,
		-1 << 62:          1<<63 - 1,
		math.MaxInt64:     math.MaxUint64 - 1,
		math.MinInt64:     math.MaxUint64,
		math.MinInt64 + 1: math.MaxUint64 - 2,
	} {
		if got := Zig(n); got != want {
			t.Errorf("Zig(%d): %d", n, got)
		}
		if got := Zag(want); got != n {
			t.Errorf("Zag(%d): %d", want, got)
		}
	}
}

func TestZigBack(t *testing.T) { // P3.2, P3.5
	for _, v := range edges() {
		if got := Zig(Zag(v)); got != v {
			t.Errorf("Zig of Zag(%d): %d", v, got)
		}
		if got := Zag(Zig(int(v))); got != int(v) {
			t.Errorf("Zag of Zig(%d): %d", int(v), got)
		}
	}
}

// texts are of the lengths at which the length's own changes, and of bytes that are no runes.
func texts() []string {
	out := []string{"", "a", "aé", "\x00", "\xff\xfe", "日本\xe6"}
	for _, n := range []int{127, 128, 16383, 16384, 70000} {
		out = append(out, strings.Repeat("\xff", n))
	}
	return out
}

func TestText(t *testing.T) { // P3.3
	for _, s := range texts() {
		for _, head := range []string{"", "x", "\xff\x80\x00"} {
			want := append(binary.AppendUvarint([]byte(head), uint64(len(s))), s...)
			if got := Text([]byte(head), s); !bytes.Equal(got, want) {
				t.Errorf("Text(%q, %.10q..): %.20q", head, s, got)
			}
		}
	}
	if got := Text(nil, ""); string(got) != "\x00" {
		t.Errorf("Text of nothing: %q", got)
	}
}

func TestTextNew(t *testing.T) { // P3.3, P3.5
	for _, s := range texts() {
		room := bytes.Repeat([]byte{7}, 100000)
		was := bytes.Clone(room)
		got := Text(room[:3], s)
		if !bytes.Equal(room, was) {
			t.Errorf("Text(.., %.10q..) changed what was handed in", s)
		}
		clear(got[:cap(got)])
		if !bytes.Equal(room, was) {
			t.Errorf("Text(.., %.10q..) is no new memory", s)
		}
	}
}

func TestTake(t *testing.T) { // P3.3
	for _, x := range []struct {
		b string
		s string
		n int
	}{
		{"\x00", "", 1},
		{"\x00abc", "", 1},
		{"\x01a", "a", 2},
		{"\x03a\xc3\xa9", "aé", 4},
		{"\x03a\xc3\xa9z", "aé", 4},
		{"\x02\xff\x80", "\xff\x80", 3},
		{"", "", 0}, // no length
		{"\x80", "", 0},
		{"\x80\x00", "", 0},
		{"\x81\x00a", "", 0},
		{"\x01", "", 0}, // no room
		{"\x03ab", "", 0},
		{"\x80\x01" + strings.Repeat("a", 127), "", 0},
		{"\x80\x80\x80\x80\x08ab", "", 0},                       // 2^31
		{"\x80\x80\x80\x80\x10ab", "", 0},                       // 2^32
		{"\x81\x80\x80\x80\x10ab", "", 0},                       // 2^32 + 1
		{"\xff\xff\xff\xff\xff\xff\xff\xff\x7fab", "", 0},       // 2^63 - 1
		{"\x80\x80\x80\x80\x80\x80\x80\x80\x80\x01ab", "", 0},   // 2^63
		{"\xf6\xff\xff\xff\xff\xff\xff\xff\xff\x01ab", "", 0},   // 2^64 - 10: round to 0 with its own ten
		{"\xf7\xff\xff\xff\xff\xff\xff\xff\xff\x01ab", "", 0},   // round to 1
		{"\xff\xff\xff\xff\xff\xff\xff\xff\xff\x01ab", "", 0},   // 2^64 - 1
		{"\xff\xff\xff\xff\xff\xff\xff\xff\xff\x02ab", "", 0},   // no number
		{"\x80\x80\x80\x80\x80\x80\x80\x80\x80\x80\x00", "", 0}, // no number
	} {
		if s, n := Take([]byte(x.b)); s != x.s || n != x.n {
			t.Errorf("Take(% x): %q, %d", x.b, s, n)
		}
	}
	if s, n := Take(nil); s != "" || n != 0 {
		t.Errorf("Take(nil): %q, %d", s, n)
	}
}

func TestTakeBack(t *testing.T) { // P3.3, P3.5
	for _, s := range texts() {
		b := Text([]byte("ab"), s)[2:]
		for _, tail := range []string{"", "\x00", "\x01a"} {
			whole := slices.Concat(b, []byte(tail))
			was := bytes.Clone(whole)
			got, n := Take(whole)
			if !bytes.Equal(whole, was) {
				t.Errorf("Take of %.10q.. changed what was handed in", s)
			}
			clear(whole)
			if got != s || n != len(b) {
				t.Errorf("Take of %.10q..: %.10q, %d", s, got, n)
			}
		}
		for k := range min(len(b), 200) {
			if got, n := Take(b[:k]); got != "" || n != 0 {
				t.Fatalf("%.10q.. cut at %d: %.10q, %d", s, k, got, n)
			}
		}
		if got, n := Take(b[:len(b)-1]); got != "" || n != 0 {
			t.Errorf("%.10q.. without its last byte: %.10q, %d", s, got, n)
		}
	}
}

func TestHash(t *testing.T) { // P3.4
	for s, want := range map[string]uint32{
		"":       2166136261,
		"a":      0xe40c292c,
		"foobar": 0xbf9cf968,
	} {
		if got := Hash(s); got != want {
			t.Errorf("Hash(%q): %x", s, got)
		}
	}
	more := texts()
	for c := range 256 {
		more = append(more, string([]byte{byte(c)}), string([]byte{'a', byte(c), 0x80}))
	}
	for _, s := range more {
		h := fnv.New32a()
		h.Write([]byte(s))
		if got := Hash(s); got != h.Sum32() {
			t.Errorf("Hash(%.10q..): %x", s, got)
		}
	}
}

func TestUnchanged(t *testing.T) { // P3.5
	for _, v := range edges() {
		b := append(Varint(v), "ab"...)
		was := bytes.Clone(b)
		Unvarint(b)
		if !bytes.Equal(b, was) {
			t.Errorf("Unvarint changed % x", was)
		}
	}
	one := Varint(300)
	clear(one)
	if two := Varint(300); string(two) != "\xac\x02" {
		t.Errorf("Varint is no new memory: % x", two)
	}
}

package frame

import (
	"bytes"
	"encoding/binary"
	"hash/crc32"
	"slices"
	"testing"

	"penstock/api"
)

// rows are what frames are made of: nothing, bytes that look like a frame's own, lengths at which a length's byte changes, the limit.
func rows() [][]byte {
	out := [][]byte{nil, {0}, []byte("a"), []byte("123456789"), {1, 0, 0, 0}, framed("ab"), bytes.Repeat([]byte{0xff}, 8), make([]byte, 8)}
	for _, n := range []int{255, 256, 257, 65535, 65536, 65537, api.MaxFrame - 1, api.MaxFrame} {
		out = append(out, mixed(n))
	}
	return out
}

// mixed is n bytes, of which none is like its neighbours.
func mixed(n int) []byte {
	out := make([]byte, n)
	for i := range out {
		out[i] = byte(i*167 + i>>8*31 + 5)
	}
	return out
}

// framed is a frame as the chapter writes it, made by the library's own means.
func framed(p string) []byte {
	out := binary.LittleEndian.AppendUint32(nil, uint32(len(p)))
	out = append(out, p...)
	return binary.LittleEndian.AppendUint32(out, crc32.ChecksumIEEE(out))
}

// full is b without spare room: what is appended to it goes elsewhere.
func full(b []byte) []byte {
	return b[:len(b):len(b)]
}

func isNext(t *testing.T, b, p []byte, n, kind int) {
	t.Helper()
	if gotP, gotN, gotKind := Next(b); !bytes.Equal(gotP, p) || gotN != n || gotKind != kind {
		t.Errorf("Next of %d bytes, % x..: %d bytes, %d, %d; not %d bytes, %d, %d", len(b), b[:min(len(b), 12)], len(gotP), gotN, gotKind, len(p), n, kind)
	}
}

func isScan(t *testing.T, b []byte, l [][]byte, n, kind int) {
	t.Helper()
	if gotL, gotN, gotKind := Scan(b); !slices.EqualFunc(gotL, l, bytes.Equal) || gotN != n || gotKind != kind {
		t.Errorf("Scan of %d bytes, % x..: %d frames, %d, %d; not %d frames, %d, %d", len(b), b[:min(len(b), 12)], len(gotL), gotN, gotKind, len(l), n, kind)
	}
}

func TestSum(t *testing.T) { // P4.1
	for s, want := range map[string]uint32{
		"":                 0,
		"\x00":             0xd202ef8d,
		"a":                0xe8b7be43,
		"123456789":        0xcbf43926,
		"\x00\x00\x00\x00": 0x2144df1c,
		"\xff\xff\xff\xff": 0xffffffff,
	} {
		if got := Sum([]byte(s)); got != want {
			t.Errorf("Sum(% x): %x", s, got)
		}
	}
	more := rows()
	for c := range 1 << 16 {
		more = append(more, []byte{byte(c >> 8), byte(c)})
	}
	for _, b := range more {
		if got := Sum(b); got != crc32.ChecksumIEEE(b) {
			t.Errorf("Sum of %d bytes, % x..: %x", len(b), b[:min(len(b), 12)], got)
		}
	}
}

func TestPut(t *testing.T) { // P4.1
	for p, want := range map[string]string{
		"":  "\x00\x00\x00\x00\x1c\xdf\x44\x21",
		"a": "\x01\x00\x00\x00a\x63\x8f\xf7\xc1",
	} {
		if got, ok := Put([]byte(p)); string(got) != want || !ok {
			t.Errorf("Put(%q): % x, %t", p, got, ok)
		}
	}
	for _, p := range rows() {
		if got, ok := Put(p); !bytes.Equal(got, framed(string(p))) || !ok {
			t.Errorf("Put of %d bytes: %d bytes, %t", len(p), len(got), ok)
		}
	}
	for _, n := range []int{1, 2, api.MaxFrame} {
		if got, ok := Put(make([]byte, api.MaxFrame+n)); len(got) != 0 || ok {
			t.Errorf("Put of %d bytes above the limit: %d bytes, %t", n, len(got), ok)
		}
	}
}

func TestNext(t *testing.T) { // P4.2
	for _, p := range rows() {
		b := framed(string(p))
		for _, tail := range [][]byte{nil, {0}, {7, 7, 7, 7, 7}, b} {
			isNext(t, slices.Concat(b, tail), p, len(b), Whole)
		}
	}
}

func TestNextTorn(t *testing.T) { // P4.2
	for _, b := range [][]byte{
		nil, // fewer than four bytes, whatever they are
		{0},
		{255, 255, 255},
		{0, 0, 255},
		{0, 0, 0, 0}, // a length that may be, and no end
		{0, 0, 0, 0, 0x1c, 0xdf, 0x44},
		{1, 0, 0, 0, 'a'},
		{1, 0, 0, 0, 'a', 9, 9, 9}, // a wrong sum is none ahead of its end
		{0, 0, 2, 0},               // the limit
		append([]byte{0, 0, 2, 0}, make([]byte, api.MaxFrame+3)...),
	} {
		isNext(t, b, nil, 0, Torn)
	}
}

func TestNextBad(t *testing.T) { // P4.2
	for _, b := range [][]byte{
		{1, 0, 2, 0}, // one above the limit, with no end
		{0, 0, 4, 0},
		{0, 0, 0, 1},
		{0, 0, 0, 0x80},       // a length that could be taken for one below 0
		{0xff, 255, 255, 255}, // or for one that runs round
		{0xf8, 255, 255, 255, 0, 0, 0, 0},
		{0, 0, 0, 0, 0, 0, 0, 0}, // another sum
		{0, 0, 0, 0, 0x21, 0x44, 0xdf, 0x1c},
		{0, 0, 0, 0, 0x1d, 0xdf, 0x44, 0x21},
		framed(string(mixed(api.MaxFrame + 1))), // a right sum makes it no better
		append([]byte{1, 0, 2, 0}, make([]byte, api.MaxFrame+100)...),
	} {
		isNext(t, b, nil, 0, Bad)
	}
	// The sum of the bytes alone, without the length.
	b := binary.LittleEndian.AppendUint32([]byte{1, 0, 0, 0, 'a'}, crc32.ChecksumIEEE([]byte("a")))
	isNext(t, b, nil, 0, Bad)
}

// TestNextTurned turns each digit of a frame over: of its length it may be torn or bad, of all others bad.
func TestNextTurned(t *testing.T) { // P4.2
	b := framed("\x00a\xff")
	for i := range b {
		for k := range 8 {
			x := bytes.Clone(b)
			x[i] ^= 1 << k
			kind := Bad
			if size := binary.LittleEndian.Uint32(x); size > 3 && size <= api.MaxFrame {
				kind = Torn
			}
			isNext(t, x, nil, 0, kind)
		}
	}
}

func TestScan(t *testing.T) { // P4.2
	isScan(t, nil, nil, 0, Whole)
	isScan(t, []byte{}, nil, 0, Whole)
	l := rows()
	var all []byte
	for i, p := range l {
		all = append(all, framed(string(p))...)
		isScan(t, all, l[:i+1], len(all), Whole)
	}
	none := bytes.Repeat(framed(""), 1000)
	isScan(t, none, make([][]byte, 1000), len(none), Whole)
}

func TestScanEnds(t *testing.T) { // P4.2
	l := [][]byte{[]byte("ab"), nil, []byte("c")}
	all := full(slices.Concat(framed("ab"), framed(""), framed("c")))
	for tail, kind := range map[string]int{
		"\x00":                                      Torn,
		"\xff\xff\xff":                              Torn,
		"\x00\x00\x02\x00":                          Torn,
		"\x01\x00\x02\x00":                          Bad,
		"\x00\x00\x00\x00\x00\x00\x00\x00":          Bad,
		"\x01\x00\x00\x00a\x63\x8f\xf7\xc0":         Bad,
		"\x01\x00\x00\x00b\x63\x8f\xf7\xc1\x00":     Bad,
		"\x02\x00\x00\x00a\x63\x8f\xf7\xc1":         Torn,
		"\xff\xff\xff\xffa" + string(framed("d")):   Bad,
		"\x00\x00\x00\x00\x1c\xdf\x44\x20a\x63\x8f": Bad,
	} {
		isScan(t, []byte(tail), nil, 0, kind)
		isScan(t, append(all, tail...), l, len(all), kind)
	}
	// What stands behind a bad one is not looked at, however whole.
	bad := slices.Concat(framed("ab"), framed(""), framed("c"), framed("d"))
	bad[len(framed("ab"))+4] ^= 1
	isScan(t, bad, l[:1], len(framed("ab")), Bad)
}

func TestBack(t *testing.T) { // P4.3
	for _, p := range rows() {
		b, _ := Put(p)
		isNext(t, b, p, len(b), Whole)
		isScan(t, b, [][]byte{p}, len(b), Whole)
	}
}

// TestCut cuts a row of frames off at each place.
func TestCut(t *testing.T) { // P4.3
	l := [][]byte{[]byte("abc"), nil, mixed(300), {0, 0, 0, 0}, framed("in"), nil}
	var all []byte
	ends := []int{0}
	for _, p := range l {
		b, _ := Put(p)
		all = append(all, b...)
		ends = append(ends, len(all))
	}
	for k := range len(all) + 1 {
		i, whole := slices.BinarySearch(ends, k)
		if whole {
			isScan(t, all[:k], l[:i], k, Whole)
		} else {
			isScan(t, all[:k], l[:i-1], ends[i-1], Torn)
		}
	}
	// A long one, near its ends.
	b, _ := Put(mixed(api.MaxFrame))
	for _, k := range []int{1, 3, 4, 5, 1000, len(b) - 5, len(b) - 4, len(b) - 1} {
		isNext(t, b[:k], nil, 0, Torn)
	}
}

func TestUnchanged(t *testing.T) { // P4.3
	for _, p := range rows() {
		room := append(bytes.Clone(p), "spare room"...)
		was := bytes.Clone(room)
		Sum(room[:len(p)])
		b, _ := Put(room[:len(p)])
		if !bytes.Equal(room, was) {
			t.Errorf("Sum or Put changed what was handed in: %d bytes", len(p))
		}
		framesWere := append(full(b), b...)
		frames := append(full(framesWere), "spare room"...)
		Next(frames[:2*len(b)])
		Scan(frames[:2*len(b)])
		if string(frames) != string(framesWere)+"spare room" {
			t.Errorf("Next or Scan changed what was handed in: %d bytes", len(p))
		}
	}
}

func TestNewMemory(t *testing.T) { // P4.3
	for _, p := range rows() {
		in := bytes.Clone(p)
		b, _ := Put(in)
		clear(in)
		if !bytes.Equal(b, framed(string(p))) {
			t.Errorf("Put keeps what was handed in: %d bytes", len(p))
		}
		x, _, _ := Next(b)
		l, _, _ := Scan(append(full(b), b...))
		spoil(b)
		if !bytes.Equal(x, p) {
			t.Errorf("Next keeps what was handed in: %d bytes", len(p))
		}
		spoil(x)
		spoil(l[0])
		if !bytes.Equal(l[1], p) {
			t.Errorf("Scan tells lists that share memory: %d bytes", len(p))
		}
	}
	two := bytes.Repeat(framed("ab"), 2)
	l, _, _ := Scan(two)
	clear(two)
	isRows := slices.EqualFunc(l, [][]byte{[]byte("ab"), []byte("ab")}, bytes.Equal)
	if !isRows {
		t.Errorf("Scan keeps what was handed in: %q", l)
	}
}

// spoil writes over a row and its spare room.
func spoil(b []byte) {
	b = b[:cap(b)]
	for i := range b {
		b[i] ^= 0x55
	}
}

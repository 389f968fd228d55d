package event

import (
	"bytes"
	"fmt"
	"math"
	"reflect"
	"slices"
	"strings"
	"testing"
	"unsafe"

	"penstock/api"
	"penstock/bits"
)

func put(stream string, expect int, data ...string) api.Put {
	return api.Put{Stream: stream, Expect: expect, Data: data}
}

func batch(key string, l ...api.Put) api.Batch {
	return api.Batch{Key: key, Puts: l}
}

// puts is so many puts for as many streams.
func puts(many int) []api.Put {
	var l []api.Put
	for i := range many {
		l = append(l, put(fmt.Sprint("s", i), -1, "x"))
	}
	return l
}

// texts is so many texts of so many bytes.
func texts(many, size int) []string {
	return slices.Repeat([]string{strings.Repeat("x", size)}, many)
}

// changed is a batch of two puts in which one thing is another one.
func changed(set func(b *api.Batch)) api.Batch {
	b := batch("k", put("a", -1, "x", "y"), put("b", 3, "z"))
	set(&b)
	return b
}

func st(wall, logic, node int) api.Stamp {
	return api.Stamp{Wall: wall, Logic: logic, Node: node}
}

// row is numbers that look random, the same ones at each run.
func row(seed uint32) func(n int) int {
	return func(n int) int {
		seed = seed*1664525 + 1013904223
		return int(seed>>8) % n
	}
}

// is holds what was told against what should be, both as text; %#v tells zeros and empty texts apart.
func is(t *testing.T, what string, got, want any) {
	t.Helper()
	if g, w := fmt.Sprintf("%#v", got), fmt.Sprintf("%#v", want); g != w {
		t.Errorf("%s:\n got %.400s\nwant %.400s", what, g, w)
	}
}

func isHex(t *testing.T, what string, got []byte, want string) {
	t.Helper()
	if g := fmt.Sprintf("% x", got); g != want {
		t.Errorf("%s:\n got %.400s\nwant %.400s", what, g, want)
	}
}

func isChecked(t *testing.T, what string, b api.Batch, want api.Errno) {
	t.Helper()
	if got := Check(b); got != want {
		t.Errorf("%s: Check %d, not %d", what, got, want)
	}
	if (len(Encode(b)) == 0) != (want != api.OK) {
		t.Errorf("%s: % x", what, Encode(b))
	}
}

func TestCheck(t *testing.T) { // P9.1
	long, key := strings.Repeat("é", api.MaxName), strings.Repeat("é", api.MaxKey)
	for what, b := range map[string]api.Batch{
		"two puts":             changed(func(b *api.Batch) {}),
		"no key":               changed(func(b *api.Batch) { b.Key = "" }),
		"a key of 40 runes":    changed(func(b *api.Batch) { b.Key = key }),
		"a key of any rune":    changed(func(b *api.Batch) { b.Key = " !\"\\~\u0080😀" }),
		"a name of 40 runes":   changed(func(b *api.Batch) { b.Puts[1].Stream = long }),
		"a name of all kinds":  changed(func(b *api.Batch) { b.Puts[1].Stream = "aZ09-_./¡" }),
		"names alike but fold": changed(func(b *api.Batch) { b.Puts[1].Stream = "A" }),
		"an Expect of 0":       changed(func(b *api.Batch) { b.Puts[1].Expect = 0 }),
		"an Expect of 2^40":    changed(func(b *api.Batch) { b.Puts[1].Expect = 1 << 40 }),
		"an empty text":        changed(func(b *api.Batch) { b.Puts[1].Data = []string{""} }),
		"a text of any rune":   changed(func(b *api.Batch) { b.Puts[1].Data = []string{"\x00\n\x7f�😀"} }),
		"a text of 1000 bytes": changed(func(b *api.Batch) { b.Puts[1].Data = []string{strings.Repeat("é", 500)} }),
		"20 texts":             changed(func(b *api.Batch) { b.Puts[1].Data = texts(20, 1) }),
		"8 puts":               batch("k", puts(8)...),
		"8 puts of 20":         changed(func(b *api.Batch) { b.Puts = full(8, 20, 187) }),
		"30000 bytes":          batch("k", put("a", -1, texts(20, 1000)...), put("b", -1, texts(10, 1000)...)),
		"30000 bytes beside":   batch(key, put("a"+long[2:], 1<<40, texts(20, 1000)...), put(long, 0, texts(10, 1000)...)),
	} {
		isChecked(t, what, b, api.OK)
	}
}

// full is so many puts of so many texts of so many bytes.
func full(many, data, size int) []api.Put {
	l := puts(many)
	for i := range l {
		l[i].Data = texts(data, size)
	}
	return l
}

// wrongs is what makes ErrArg of a batch.
func wrongs() map[string]func(b *api.Batch) {
	return map[string]func(b *api.Batch){
		"a key of 41 runes":      func(b *api.Batch) { b.Key = strings.Repeat("k", 41) },
		"a key with a low rune":  func(b *api.Batch) { b.Key = "k\n" },
		"a key with 7F":          func(b *api.Batch) { b.Key = "\x7f" },
		"a key that isn't Valid": func(b *api.Batch) { b.Key = "k\xff" },
		"no puts":                func(b *api.Batch) { b.Puts = nil },
		"an empty list of puts":  func(b *api.Batch) { b.Puts = []api.Put{} },
		"no name":                func(b *api.Batch) { b.Puts[0].Stream = "" },
		"a name of 41 runes":     func(b *api.Batch) { b.Puts[1].Stream = strings.Repeat("é", 41) },
		"a name with a blank":    func(b *api.Batch) { b.Puts[1].Stream = "b c" },
		"a name below A1":        func(b *api.Batch) { b.Puts[1].Stream = "\u00a0" },
		"a name not Valid":       func(b *api.Batch) { b.Puts[1].Stream = "b\xc3" },
		"one twice":              func(b *api.Batch) { b.Puts[1].Stream = "a" },
		"one twice, far off":     func(b *api.Batch) { b.Puts = append(b.Puts, put("c", -1, "x"), put("a", -1, "x")) },
		"an Expect of -2":        func(b *api.Batch) { b.Puts[0].Expect = -2 },
		"the least Expect":       func(b *api.Batch) { b.Puts[1].Expect = math.MinInt },
		"an Expect above 2^40":   func(b *api.Batch) { b.Puts[1].Expect = 1<<40 + 1 },
		"the greatest Expect":    func(b *api.Batch) { b.Puts[0].Expect = math.MaxInt },
		"no Data":                func(b *api.Batch) { b.Puts[1].Data = nil },
		"an empty list of Data":  func(b *api.Batch) { b.Puts[0].Data = []string{} },
		"Data not Valid":         func(b *api.Batch) { b.Puts[0].Data[1] = "y\xff" },
		"Data with a surrogate":  func(b *api.Batch) { b.Puts[1].Data[0] = "\xed\xa0\x80" },
		"Data that is cut":       func(b *api.Batch) { b.Puts[1].Data[0] = "é"[:1] },
	}
}

// greats is what makes ErrBig of a batch.
func greats() map[string]func(b *api.Batch) {
	return map[string]func(b *api.Batch){
		"9 puts":           func(b *api.Batch) { b.Puts = append(b.Puts, puts(7)...) },
		"90000 puts":       func(b *api.Batch) { b.Puts = append(b.Puts, puts(90000)...) },
		"21 Data":          func(b *api.Batch) { b.Puts[0].Data = append(b.Puts[0].Data, texts(19, 0)...) },
		"21 Data behind":   func(b *api.Batch) { b.Puts[1].Data = append(b.Puts[1].Data, texts(20, 1)...) },
		"1001 bytes":       func(b *api.Batch) { b.Puts[0].Data[1] = strings.Repeat("x", 1001) },
		"501 runes of two": func(b *api.Batch) { b.Puts[1].Data[0] = strings.Repeat("é", 501) },
		"30003 bytes": func(b *api.Batch) {
			b.Puts = append(b.Puts, put("c", 0, texts(20, 1000)...), put("d", 0, texts(10, 1000)...))
		},
		"30003 bytes of all": func(b *api.Batch) { b.Puts = append(b.Puts, full(6, 20, 250)...) },
	}
}

func TestCheckWrong(t *testing.T) { // P9.1: ErrArg, also where more than a limit stands ahead of it or behind
	great := put("great", -1, texts(21, 1001)...)
	for what, set := range wrongs() {
		b := changed(set)
		isChecked(t, what, b, api.ErrArg)
		if len(b.Puts) == 0 {
			continue
		}
		b.Puts = append(b.Puts, great)
		isChecked(t, what+", and then more than a limit", b, api.ErrArg)
		b.Puts = append([]api.Put{great}, changed(set).Puts...)
		isChecked(t, what+" behind more than a limit", b, api.ErrArg)
		b.Puts = append(changed(set).Puts, puts(7)...)
		isChecked(t, what+", and then too many", b, api.ErrArg)
		b.Puts = append(puts(9), changed(set).Puts...)
		isChecked(t, what+" behind too many", b, api.ErrArg)
	}
	isChecked(t, "a zero batch", api.Batch{}, api.ErrArg)
	isChecked(t, "a text that is too long and not Valid", batch("k", put("a", -1, strings.Repeat("x", 1001)+"\xff")), api.ErrArg)
	many := puts(5000)
	isChecked(t, "one twice of many", batch("k", append(many, many[0])...), api.ErrArg)
	isChecked(t, "the last one wrong of many", batch("k", append(many, put("z", -1, "\xff"))...), api.ErrArg)
}

func TestCheckBig(t *testing.T) { // P9.1
	for what, set := range greats() {
		isChecked(t, what, changed(set), api.ErrBig)
	}
	isChecked(t, "30000 bytes", batch("k", full(6, 5, 1000)...), api.OK)
	l := full(6, 5, 1000)
	l[5].Data = append(l[5].Data, "")
	isChecked(t, "30000 bytes and an empty text", batch("k", l...), api.OK)
	l[0].Data = append(l[0].Data, "x")
	isChecked(t, "30001 bytes", batch("k", l...), api.ErrBig)
}

func TestEncode(t *testing.T) { // P9.2
	isHex(t, "the least one", Encode(batch("", put("a", -1, ""))), "00 01 01 61 01 01 00")
	isHex(t, "two puts", Encode(batch("k", put("a", -1, "x", "y"), put("b", 3, ""))), "01 6b 02 01 61 01 02 01 78 01 79 01 62 06 01 00")
	isHex(t, "runes", Encode(batch("é", put("ü", 0, "€"))), "02 c3 a9 01 02 c3 bc 00 01 03 e2 82 ac")
	isHex(t, "an Expect", Encode(batch("", put("a", 300, "x"))), "00 01 01 61 d8 04 01 01 78")
	isHex(t, "the greatest Expect", Encode(batch("", put("a", 1<<40, "x"))), "00 01 01 61 80 80 80 80 80 40 01 01 78")
	isHex(t, "a long text", Encode(batch("", put("a", -1, texts(1, 300)...))), "00 01 01 61 01 01 ac 02"+strings.Repeat(" 78", 300))
	isHex(t, "the order of the puts", Encode(batch("", put("b", -1, "2", "1"), put("a", -1, "0"))), "00 02 01 62 01 02 01 32 01 31 01 61 01 01 01 30")
	for what, set := range wrongs() {
		isHex(t, what, Encode(changed(set)), "")
	}
	for what, set := range greats() {
		isHex(t, what, Encode(changed(set)), "")
	}
}

// isBad holds that no batch, or no event, or no stream is read.
func isBad[T any](t *testing.T, what string, b []byte, read func([]byte) (T, int, api.Errno)) {
	t.Helper()
	var none T
	x, n, e := read(b)
	is(t, fmt.Sprintf("%s (% .60x)", what, b), []any{x, n, e}, []any{none, 0, api.ErrBad})
}

// isRead holds that what was written is read as it was, whatever stands behind, and none of what is cut.
func isRead[T any](t *testing.T, x T, write func(T) []byte, read func([]byte) (T, int, api.Errno)) {
	t.Helper()
	b := write(x)
	if len(b) == 0 {
		t.Errorf("%#v isn't written", x)
	}
	for _, behind := range [][]byte{nil, {0}, {1}, {128}, {255, 255}, b} {
		y, n, e := read(append(bytes.Clone(b), behind...))
		is(t, fmt.Sprintf("% .60x, and % .60x", b, behind), []any{y, n, e}, []any{x, len(b), api.OK})
	}
	for k := range b {
		if k < 200 || k > len(b)-200 {
			isBad(t, fmt.Sprint("cut at ", k), b[:k:k], read)
		}
	}
}

func TestDecode(t *testing.T) { // P9.2, P9.6
	for _, b := range []api.Batch{
		batch("", put("a", -1, "")),
		batch("k", put("a", -1, "x", "y"), put("b", 3, "")),
		batch(strings.Repeat("é", 40), put(strings.Repeat("😀", 40), 1<<40, "\x00", "�", "\x7f")),
		batch("k", puts(8)...),
		batch("k", put("a", 0, texts(20, 0)...)),
		batch("k", full(8, 20, 187)...),
		batch("k", full(6, 5, 1000)...),
		batch("k", put("a", 63, "x"), put("b", 64, "x"), put("A", 1<<40-1, "x")),
	} {
		isRead(t, b, Encode, Decode)
	}
}

// numbers lays numbers, one behind the other.
func numbers(l ...uint64) []byte {
	var out []byte
	for _, v := range l {
		out = append(out, bits.Varint(v)...)
	}
	return out
}

// joined is the bytes of texts (as they are), numbers (as they are laid) and bytes.
func joined(l ...any) []byte {
	var out []byte
	for _, x := range l {
		switch x := x.(type) {
		case string:
			out = append(out, x...)
		case int:
			out = append(out, numbers(uint64(x))...)
		case uint64:
			out = append(out, numbers(x)...)
		case []byte:
			out = append(out, x...)
		}
	}
	return out
}

func TestDecodeBad(t *testing.T) { // P9.2: ErrBad, if there is none
	const most = uint64(math.MaxUint64)
	isBad(t, "nothing", nil, Decode)
	for what, b := range map[string][]byte{
		"no puts":               {0, 0},
		"no Data":               {0, 1, 1, 'a', 1, 0},
		"a put too few":         {0, 2, 1, 'a', 1, 1, 0},
		"a text too few":        {0, 1, 1, 'a', 1, 3, 1, 0},
		"one twice":             {0, 2, 1, 'a', 1, 1, 0, 1, 'a', 1, 1, 0},
		"no name":               {0, 1, 0, 1, 1, 0},
		"a name that is none":   {0, 1, 1, ' ', 1, 1, 0},
		"a key that is none":    {1, 10, 1, 1, 'a', 1, 1, 0},
		"a key not Valid":       {1, 255, 1, 1, 'a', 1, 1, 0},
		"Data not Valid":        {0, 1, 1, 'a', 1, 1, 1, 255},
		"an Expect of -2":       {0, 1, 1, 'a', 3, 1, 0},
		"an Expect above 2^40":  joined("\x00\x01\x01a", 1<<41+2, "\x01\x00"),
		"the greatest Expect":   joined("\x00\x01\x01a", most-1, "\x01\x00"),
		"the least Expect":      joined("\x00\x01\x01a", most, "\x01\x00"),
		"9 puts":                joined("\x00\x09", bytes.Repeat([]byte("\x01a\x01\x01\x00"), 9)),
		"9 puts of unlike ones": {0, 9, 1, 'a', 1, 1, 0, 1, 'b', 1, 1, 0, 1, 'c', 1, 1, 0, 1, 'd', 1, 1, 0, 1, 'e', 1, 1, 0, 1, 'f', 1, 1, 0, 1, 'g', 1, 1, 0, 1, 'h', 1, 1, 0, 1, 'i', 1, 1, 0},
		"21 texts":              joined("\x00\x01\x01a\x01\x15", make([]byte, 21)),
		"2^64 - 1 puts":         joined("\x00", most, "\x01a\x01\x01\x00"),
		"2^64 - 1 texts":        joined("\x00\x01\x01a\x01", most, make([]byte, 100000)),
		"2^63 puts":             joined("\x00", uint64(1<<63), "\x01a\x01\x01\x00"),
		"2^32 + 1 puts":         joined("\x00", 1<<32+1, "\x01a\x01\x01\x00"),
		"2^32 + 1 texts":        joined("\x00\x01\x01a\x01", 1<<32+1, "\x00"),
		"1001 bytes":            joined("\x00\x01\x01a\x01\x01", bits.Text(nil, strings.Repeat("x", 1001))),
		"30001 bytes":           joined("\x00\x02\x01a\x01\x14", bytes.Repeat(bits.Text(nil, strings.Repeat("x", 1000)), 20), "\x01b\x01\x0b", bytes.Repeat(bits.Text(nil, strings.Repeat("x", 1000)), 10), "\x01x"),
		"a key's long size":     {0x80, 0, 1, 1, 'a', 1, 1, 0},
		"a long count of puts":  {0, 0x81, 0, 1, 'a', 1, 1, 0},
		"a long Expect":         {0, 1, 1, 'a', 0x81, 0, 1, 0},
		"a long count of Data":  {0, 1, 1, 'a', 1, 0x81, 0, 0},
		"a text without an end": joined("\x00\x01\x01a\x01\x01", most),
		"a name without an end": joined("\x00\x01", uint64(1<<63), "a\x01\x01\x00"),
	} {
		isBad(t, what, b, Decode)
	}
}

// isTrue holds what is read of any bytes: nothing, or what is written just so.
func isTrue[T any](t *testing.T, b []byte, write func(T) []byte, read func([]byte) (T, int, api.Errno)) bool {
	t.Helper()
	x, n, e := read(b)
	if e == api.OK {
		if n < 1 || n > len(b) || !bytes.Equal(write(x), b[:n]) {
			t.Fatalf("% x: %#v, %d", b, x, n)
		}
		return true
	}
	if e != api.ErrBad || n != 0 {
		t.Fatalf("% x: %#v, %d, %d", b, x, n, e)
	}
	var none T
	if !reflect.DeepEqual(x, none) {
		t.Fatalf("% x: %#v", b, x)
	}
	return false
}

// nears goes through all bytes that are one change away from b.
func nears(b []byte, f func(near []byte)) {
	for i := range b {
		for c := range 256 {
			near := bytes.Clone(b)
			near[i] = byte(c)
			f(near)
			f(slices.Insert(bytes.Clone(b), i, byte(c)))
		}
		f(slices.Delete(bytes.Clone(b), i, i+1))
	}
}

func TestNear(t *testing.T) { // P9.2, P9.3, P9.5: what is one change away from what was written
	for _, b := range []api.Batch{batch("", put("a", -1, "")), batch("ké", put("a", -1, "x", "y"), put("é", 300, "€"))} {
		nears(Encode(b), func(near []byte) { isTrue(t, near, Encode, Decode) })
	}
	for _, e := range []api.Event{event(), {Stream: "é", Version: 1 << 40, Data: "€", Stamp: st(api.MaxWall, api.MaxLogic-1, 5), Index: 160}} {
		nears(EncodeEvent(e), func(near []byte) { isTrue(t, near, EncodeEvent, DecodeEvent) })
	}
	for _, s := range []api.Stream{{Name: "é"}, stream()} {
		nears(EncodeStream(s), func(near []byte) { isTrue(t, near, EncodeStream, DecodeStream) })
	}
}

func TestShort(t *testing.T) { // P9.2, P9.3, P9.5: all rows of eight bytes of a few kinds
	batches, events, streams := 0, 0, 0
	var b [8]byte
	for n := range 5 * 5 * 5 * 5 * 5 * 5 * 5 * 5 {
		for i := range b {
			b[i] = []byte{0, 1, 2, 'a', 128}[n%5]
			n /= 5
		}
		if isTrue(t, b[:], Encode, Decode) {
			batches++
		}
		if isTrue(t, b[:], EncodeEvent, DecodeEvent) {
			events++
		}
		if isTrue(t, b[:], EncodeStream, DecodeStream) {
			streams++
		}
	}
	// Seven bytes have a batch of three Expects, ahead of any; eight: a longer key, name or Expect, a text of four kinds, or two texts.
	wantBatches := 3*5 + 3 + 3 + 3 + 3*4 + 3
	// Eight bytes have an event of three Versions, Walls and Logics of four kinds, three Nodes, four Indexes.
	wantEvents := 3 * 4 * 4 * 3 * 4
	// An empty stream has four bytes, or five.
	wantStreams := 5*5*5*5 + 5*5*5
	if batches != wantBatches || events != wantEvents || streams != wantStreams {
		t.Errorf("%d batches, %d events, %d streams", batches, events, streams)
	}
}

func event() api.Event {
	return api.Event{Stream: "a", Version: 300, Data: "é", Stamp: st(5, 1, 2), Index: 4}
}

func TestEncodeEvent(t *testing.T) { // P9.3
	isHex(t, "an event", EncodeEvent(event()), "01 61 ac 02 02 c3 a9 05 01 02 04")
	isHex(t, "the least one", EncodeEvent(api.Event{Stream: "a", Version: 1}), "01 61 01 00 00 00 00 00")
	isHex(t, "the greatest numbers", EncodeEvent(api.Event{Stream: "é", Version: 1 << 40, Stamp: st(api.MaxWall, 65535, 5), Index: 160}), "02 c3 a9 80 80 80 80 80 20 00 80 80 80 80 80 80 80 02 ff ff 03 05 a0 01")
}

func TestEvents(t *testing.T) { // P9.3, P9.6
	for i, c := range []struct {
		set func(e *api.Event)
		ok  bool
	}{
		{func(e *api.Event) {}, true},
		{func(e *api.Event) { e.Stream = strings.Repeat("é", 40) }, true},
		{func(e *api.Event) { e.Stream = strings.Repeat("é", 41) }, false},
		{func(e *api.Event) { e.Stream = "" }, false},
		{func(e *api.Event) { e.Stream = "a b" }, false},
		{func(e *api.Event) { e.Stream = "\xff" }, false},
		{func(e *api.Event) { e.Version = math.MinInt }, false},
		{func(e *api.Event) { e.Version = -1 }, false},
		{func(e *api.Event) { e.Version = 0 }, false},
		{func(e *api.Event) { e.Version = 1 }, true},
		{func(e *api.Event) { e.Version = 127 }, true},
		{func(e *api.Event) { e.Version = 128 }, true},
		{func(e *api.Event) { e.Version = 1<<40 - 1 }, true},
		{func(e *api.Event) { e.Version = 1 << 40 }, true},
		{func(e *api.Event) { e.Version = 1<<40 + 1 }, false},
		{func(e *api.Event) { e.Version = math.MaxInt }, false},
		{func(e *api.Event) { e.Data = "" }, true},
		{func(e *api.Event) { e.Data = "\x00\n\x7f�😀" }, true},
		{func(e *api.Event) { e.Data = "\xff" }, false},
		{func(e *api.Event) { e.Data = "é\xc3" }, false},
		{func(e *api.Event) { e.Data = strings.Repeat("é", 500) }, true},
		{func(e *api.Event) { e.Data = strings.Repeat("é", 500) + "x" }, false},
		{func(e *api.Event) { e.Stamp = api.Stamp{} }, true},
		{func(e *api.Event) { e.Stamp = st(api.MaxWall, api.MaxLogic-1, api.MaxNodes) }, true},
		{func(e *api.Event) { e.Stamp.Wall = -1 }, false},
		{func(e *api.Event) { e.Stamp.Wall = api.MaxWall + 1 }, false},
		{func(e *api.Event) { e.Stamp.Logic = -1 }, false},
		{func(e *api.Event) { e.Stamp.Logic = api.MaxLogic }, false},
		{func(e *api.Event) { e.Stamp.Node = -1 }, false},
		{func(e *api.Event) { e.Stamp.Node = 6 }, false},
		{func(e *api.Event) { e.Index = math.MinInt }, false},
		{func(e *api.Event) { e.Index = -1 }, false},
		{func(e *api.Event) { e.Index = 0 }, true},
		{func(e *api.Event) { e.Index = 159 }, true},
		{func(e *api.Event) { e.Index = 160 }, true},
		{func(e *api.Event) { e.Index = 161 }, false},
		{func(e *api.Event) { e.Index = math.MaxInt }, false},
	} {
		e := event()
		c.set(&e)
		if !c.ok {
			isHex(t, fmt.Sprint("event ", i), EncodeEvent(e), "")
			continue
		}
		isRead(t, e, EncodeEvent, DecodeEvent)
	}
	isHex(t, "a zero event", EncodeEvent(api.Event{}), "")
}

func TestDecodeEventBad(t *testing.T) { // P9.3
	const most = uint64(math.MaxUint64)
	isBad(t, "nothing", nil, DecodeEvent)
	for what, b := range map[string][]byte{
		"no name":             {0, 1, 0, 0, 0, 0, 0},
		"a name that is none": {1, '*', 1, 0, 0, 0, 0, 0},
		"a name of 41 runes":  joined("\x29", strings.Repeat("a", 41), "\x01\x00\x00\x00\x00\x00"),
		"a Version of 0":      {1, 'a', 0, 0, 0, 0, 0, 0},
		"a Version above":     joined("\x01a", 1<<40+1, "\x00\x00\x00\x00\x00"),
		"a Version of 2^63":   joined("\x01a", uint64(1<<63), "\x00\x00\x00\x00\x00"),
		"2^63 more than 1":    joined("\x01a", uint64(1<<63+1), "\x00\x00\x00\x00\x00"),
		"a Version of 2^64-1": joined("\x01a", most, "\x00\x00\x00\x00\x00"),
		"a long Version":      {1, 'a', 0x81, 0, 0, 0, 0, 0, 0},
		"Data not Valid":      {1, 'a', 1, 1, 255, 0, 0, 0, 0},
		"Data of 1001 bytes":  joined("\x01a\x01", bits.Text(nil, strings.Repeat("x", 1001)), "\x00\x00\x00\x00"),
		"Data without an end": joined("\x01a\x01", most, "\x00\x00\x00\x00"),
		"a Wall above":        joined("\x01a\x01\x00", api.MaxWall+1, "\x00\x00\x00"),
		"a Logic above":       joined("\x01a\x01\x00\x00", api.MaxLogic, "\x00\x00"),
		"a Node above":        {1, 'a', 1, 0, 0, 0, 6, 0},
		"an Index above":      {1, 'a', 1, 0, 0, 0, 0, 0xa1, 1},
		"an Index of 2^63":    joined("\x01a\x01\x00\x00\x00\x00", uint64(1<<63)),
		"an Index of 2^64-1":  joined("\x01a\x01\x00\x00\x00\x00", most),
		"a long Index":        {1, 'a', 1, 0, 0, 0, 0, 0x80, 0},
	} {
		isBad(t, what, b, DecodeEvent)
		isBad(t, what+", and more", append(bytes.Clone(b), 0, 0, 0, 0), DecodeEvent)
	}
}

func TestMake(t *testing.T) { // P9.4
	s := st(5, 0, 1)
	ab := batch("k", put("a", -1, "x", "y"), put("b", 3, ""))
	is(t, "the chapter's example", Make(batch("k", put("a", -1, "x", "y")), []int{3}, s, 0), []api.Event{
		{Stream: "a", Version: 3, Data: "x", Stamp: s, Index: 0},
		{Stream: "a", Version: 4, Data: "y", Stamp: s, Index: 1},
	})
	want := []api.Event{
		{Stream: "a", Version: 9, Data: "x", Stamp: s, Index: 7},
		{Stream: "a", Version: 10, Data: "y", Stamp: s, Index: 8},
		{Stream: "b", Version: 4, Data: "", Stamp: s, Index: 9},
	}
	is(t, "two puts", Make(ab, []int{9, 4}, s, 7), want)
	is(t, "more firsts than puts", Make(ab, []int{9, 4, 1, 2}, s, 7), want)
	want[2].Version = 0
	is(t, "a first too few", Make(ab, []int{9}, s, 7), want)
	want[0].Version, want[1].Version = 0, 0
	is(t, "no firsts", Make(ab, nil, s, 7), want)
	want[1].Version, want[2].Version = 1, -5
	is(t, "any firsts", Make(ab, []int{0, -5}, s, 7), want)
}

func TestMakeAny(t *testing.T) { // P9.4: of batches that Check refuses, too
	none := []api.Event(nil)
	is(t, "of no puts", Make(api.Batch{}, []int{1}, st(1, 2, 3), 4), none)
	is(t, "of no Data", Make(batch("k", put("a", -1), put("b", -1)), []int{1, 2}, st(1, 2, 3), 4), none)
	s := st(math.MinInt, -7, math.MaxInt)
	l := Make(batch("\xff", put("\xff", -9, "\xff"), put("", 1), put("\xff", 0, "x")), []int{1, 2, 3}, s, -1)
	is(t, "of what may not be", l, []api.Event{
		{Stream: "\xff", Version: 1, Data: "\xff", Stamp: s, Index: -1},
		{Stream: "\xff", Version: 3, Data: "x", Stamp: s, Index: 0},
	})
	if l := Make(batch("k", put("a", -1, "x", "y")), []int{math.MaxInt}, st(1, 2, 3), math.MaxInt); len(l) != 2 || l[0].Version != math.MaxInt || l[0].Index != math.MaxInt {
		t.Errorf("at the end of the numbers: %v", l)
	}
	l = Make(batch("k", full(8, 20, 3)...), []int{1, 2, 3, 4, 5, 6, 7, 8}, st(1, 2, 3), 0)
	for i, e := range l {
		is(t, "of 160", e, api.Event{Stream: fmt.Sprint("s", i/20), Version: i/20 + 1 + i%20, Data: "xxx", Stamp: st(1, 2, 3), Index: i})
	}
	if len(l) != 160 {
		t.Errorf("%d of 160", len(l))
	}
}

func stream() api.Stream {
	return api.Stream{Name: "a", Events: []api.Event{event(), {Stream: "a", Version: 1}}, Keys: []api.Known{{Key: "k", First: 3, Stamp: st(5, 1, 2)}, {Key: "é", First: 300}}}
}

func TestEncodeStream(t *testing.T) { // P9.5
	isHex(t, "a stream", EncodeStream(stream()), "01 61 02 01 61 ac 02 02 c3 a9 05 01 02 04 01 61 01 00 00 00 00 00 02 01 6b 03 05 01 02 02 c3 a9 ac 02 00 00 00")
	isHex(t, "an empty one", EncodeStream(api.Stream{Name: "é"}), "02 c3 a9 00 00")
	isHex(t, "one of empty lists", EncodeStream(api.Stream{Name: "a", Events: []api.Event{}, Keys: []api.Known{}}), "01 61 00 00")
}

func TestStreams(t *testing.T) { // P9.5, P9.6
	for i, c := range []struct {
		set func(s *api.Stream)
		ok  bool
	}{
		{func(s *api.Stream) {}, true},
		{func(s *api.Stream) { s.Events = nil }, true},
		{func(s *api.Stream) { s.Keys = nil }, true},
		{func(s *api.Stream) { s.Events, s.Keys = nil, nil }, true},
		{func(s *api.Stream) { s.Events = append(s.Events, s.Events...) }, true},
		{func(s *api.Stream) { s.Keys = append(s.Keys, s.Keys...) }, true},
		{func(s *api.Stream) { s.Name = "b" }, false},
		{func(s *api.Stream) { s.Name = "" }, false},
		{func(s *api.Stream) { s.Name, s.Events = "", nil }, false},
		{func(s *api.Stream) { s.Name, s.Events = "a b", nil }, false},
		{func(s *api.Stream) { s.Name, s.Events = strings.Repeat("é", 41), nil }, false},
		{func(s *api.Stream) { s.Name, s.Events = strings.Repeat("é", 40), nil }, true},
		{func(s *api.Stream) { s.Name, s.Events[0].Stream, s.Events[1].Stream = "", "", "" }, false},
		{func(s *api.Stream) { s.Events[0].Stream = "b" }, false},
		{func(s *api.Stream) { s.Events[1].Stream = "A" }, false},
		{func(s *api.Stream) { s.Events[1].Version = 0 }, false},
		{func(s *api.Stream) { s.Events[0].Version = 1<<40 + 1 }, false},
		{func(s *api.Stream) { s.Events[0].Data = "\xff" }, false},
		{func(s *api.Stream) { s.Events[1].Data = strings.Repeat("x", 1001) }, false},
		{func(s *api.Stream) { s.Events[1].Stamp.Node = 6 }, false},
		{func(s *api.Stream) { s.Events[1].Index = 161 }, false},
		{func(s *api.Stream) { s.Keys[0].Key = "" }, false},
		{func(s *api.Stream) { s.Keys[1].Key = "\n" }, false},
		{func(s *api.Stream) { s.Keys[1].Key = "k\xff" }, false},
		{func(s *api.Stream) { s.Keys[1].Key = strings.Repeat("k", 41) }, false},
		{func(s *api.Stream) { s.Keys[1].Key = strings.Repeat("é", 40) }, true},
		{func(s *api.Stream) { s.Keys[0].First = math.MinInt }, false},
		{func(s *api.Stream) { s.Keys[0].First = -1 }, false},
		{func(s *api.Stream) { s.Keys[0].First = 0 }, false},
		{func(s *api.Stream) { s.Keys[0].First = 1 }, true},
		{func(s *api.Stream) { s.Keys[1].First = 1 << 40 }, true},
		{func(s *api.Stream) { s.Keys[1].First = 1<<40 + 1 }, false},
		{func(s *api.Stream) { s.Keys[1].First = math.MaxInt }, false},
		{func(s *api.Stream) { s.Keys[0].Stamp = st(api.MaxWall, api.MaxLogic-1, api.MaxNodes) }, true},
		{func(s *api.Stream) { s.Keys[0].Stamp.Wall = -1 }, false},
		{func(s *api.Stream) { s.Keys[1].Stamp.Logic = api.MaxLogic }, false},
		{func(s *api.Stream) { s.Keys[1].Stamp.Node = 6 }, false},
	} {
		s := stream()
		c.set(&s)
		if !c.ok {
			isHex(t, fmt.Sprint("stream ", i), EncodeStream(s), "")
			continue
		}
		isRead(t, s, EncodeStream, DecodeStream)
	}
	isHex(t, "a zero stream", EncodeStream(api.Stream{}), "")
}

func TestDecodeStreamBad(t *testing.T) { // P9.5
	const most = uint64(math.MaxUint64)
	isBad(t, "nothing", nil, DecodeStream)
	for what, b := range map[string][]byte{
		"no name":                   {0, 0, 0},
		"a name that is none":       {1, ' ', 0, 0},
		"another one's event":       {1, 'a', 1, 1, 'b', 1, 0, 0, 0, 0, 0, 0},
		"another one's event, last": {1, 'a', 2, 1, 'a', 1, 0, 0, 0, 0, 0, 1, 'b', 1, 0, 0, 0, 0, 0, 0},
		"an event of Version 0":     {1, 'a', 1, 1, 'a', 0, 0, 0, 0, 0, 0, 0},
		"an event of Node 6":        {1, 'a', 1, 1, 'a', 1, 0, 0, 0, 6, 0, 0},
		"an event of Index 161":     {1, 'a', 1, 1, 'a', 1, 0, 0, 0, 0, 0xa1, 1, 0},
		"an event not Valid":        {1, 'a', 1, 1, 'a', 1, 1, 255, 0, 0, 0, 0, 0},
		"an event too few":          {1, 'a', 2, 1, 'a', 1, 0, 0, 0, 0, 0},
		"a long count of events":    {1, 'a', 0x80, 0, 0},
		"a long count of keys":      {1, 'a', 0, 0x80, 0},
		"a key too few":             {1, 'a', 0, 2, 1, 'k', 1, 0, 0, 0},
		"an empty key":              {1, 'a', 0, 1, 0, 1, 0, 0, 0},
		"a key that is none":        {1, 'a', 0, 1, 1, 10, 1, 0, 0, 0},
		"a First of 0":              {1, 'a', 0, 1, 1, 'k', 0, 0, 0, 0},
		"a First above":             joined("\x01a\x00\x01\x01k", 1<<40+1, "\x00\x00\x00"),
		"a First of 2^63 more":      joined("\x01a\x00\x01\x01k", uint64(1<<63+1), "\x00\x00\x00"),
		"a First of 2^64-1":         joined("\x01a\x00\x01\x01k", most, "\x00\x00\x00"),
		"a key of Node 6":           {1, 'a', 0, 1, 1, 'k', 1, 0, 0, 6},
		"2^64 - 1 events":           joined("\x01a", most, bytes.Repeat([]byte("\x01a\x01\x00\x00\x00\x00\x00"), 1000)),
		"2^64 - 1 keys":             joined("\x01a\x00", most, bytes.Repeat([]byte("\x01k\x01\x00\x00\x00"), 1000)),
		"2^63 events":               joined("\x01a", uint64(1<<63), "\x00"),
		"2^32 + 1 keys":             joined("\x01a\x00", 1<<32+1, "\x01k\x01\x00\x00\x00"),
	} {
		isBad(t, what, b, DecodeStream)
	}
}

func TestLongStream(t *testing.T) { // P9.5, P9.6: far more than a batch has
	s := api.Stream{Name: "a"}
	want := joined("\x01a", 30000)
	for i := range 30000 {
		s.Events = append(s.Events, api.Event{Stream: "a", Version: i + 1, Data: "0123456789", Stamp: st(i, 0, 1)})
		want = append(want, joined("\x01a", i+1, "\x0a0123456789", i, "\x00\x01\x00")...)
	}
	want = append(want, joined(20000)...)
	for i := range 20000 {
		s.Keys = append(s.Keys, api.Known{Key: fmt.Sprint(i), First: i + 1, Stamp: st(i, 0, 1)})
		want = append(want, joined(bits.Text(nil, fmt.Sprint(i)), i+1, i, "\x00\x01")...)
	}
	b := EncodeStream(s)
	if !bytes.Equal(b, want) {
		t.Errorf("%d bytes, not %d", len(b), len(want))
	}
	x, n, e := DecodeStream(append(b, 7))
	if n != len(b) || e != api.OK || x.Name != "a" || !slices.Equal(x.Events, s.Events) || !slices.Equal(x.Keys, s.Keys) {
		t.Errorf("%d events, %d keys, %d, %d", len(x.Events), len(x.Keys), n, e)
	}
	s.Events[29999].Version = 0
	isHex(t, "with a wrong last event", EncodeStream(s), "")
}

// someText is a Valid text of up to so many runes.
func someText(next func(int) int, most int) string {
	var out strings.Builder
	for range next(most + 1) {
		out.WriteRune([]rune("abcXYZ019-_./é€😀")[next(16)])
	}
	return out.String()
}

func TestLong(t *testing.T) { // P9.2, P9.6: a row of batches, one behind the other
	next := row(9)
	var all []byte
	var l []api.Batch
	for range 2000 {
		b := batch(someText(next, 40))
		for i := range 1 + next(8) {
			p := put(fmt.Sprint(i, someText(next, 39)), next(1<<24)<<16>>next(40)-1)
			for range 1 + next(20) {
				p.Data = append(p.Data, someText(next, 30))
			}
			b.Puts = append(b.Puts, p)
		}
		all, l = append(all, Encode(b)...), append(l, b)
	}
	for _, want := range l {
		x, n, e := Decode(all)
		is(t, "the next one", []any{x, e}, []any{want, api.OK})
		if n == 0 {
			t.Fatalf("%d bytes are left", len(all))
		}
		all = all[n:]
	}
	if len(all) != 0 {
		t.Errorf("%d bytes are left", len(all))
	}
}

func TestHandedIn(t *testing.T) { // P9.6: neither changed, its spare room neither, nor kept
	data := append(make([]string, 0, 4), "x", "y")
	l := append(make([]api.Put, 0, 4), put("b", -1, data...), put("a", -1, "z"))
	l[0].Data = data
	firsts := append(make([]int, 0, 4), 3)
	b := batch("k", l...)
	b.Puts = l
	told := func() string { return fmt.Sprint(b, l[:4], data[:4], firsts[:4]) }
	was := told()
	Check(b)
	Encode(b)
	made := Make(b, firsts, st(1, 2, 3), 0)
	if told() != was {
		t.Errorf("a batch:\n got %s\nwant %s", told(), was)
	}
	data[0], l[1].Data[0], l[1].Stream, firsts[0] = "#", "#", "#", 99
	is(t, "what was made", fmt.Sprint(made), "[{b 3 x {1 2 3} 0} {b 4 y {1 2 3} 1} {a 0 z {1 2 3} 2}]")
	s := stream()
	s.Events, s.Keys = append(make([]api.Event, 0, 4), s.Events...), append(make([]api.Known, 0, 4), s.Keys...)
	was = fmt.Sprint(s, s.Events[:4], s.Keys[:4])
	EncodeStream(s)
	is(t, "a stream", fmt.Sprint(s, s.Events[:4], s.Keys[:4]), was)
}

func TestBytesHandedIn(t *testing.T) { // P9.6
	clobber := func(b []byte) {
		for i := range b {
			b[i] = '#'
		}
	}
	one := batch("key", put("name", -1, "data", "more"))
	b := append(Encode(one), "spare"...)
	was := bytes.Clone(b)
	x, _, _ := Decode(b[:len(b)-5])
	Decode(b[:9])
	isHex(t, "a batch's bytes", b, fmt.Sprintf("% x", was))
	clobber(b)
	is(t, "a batch", x, one)
	b = append(EncodeEvent(event()), "spare"...)
	was = bytes.Clone(b)
	y, _, _ := DecodeEvent(b[:len(b)-5])
	DecodeEvent(b[:9])
	isHex(t, "an event's bytes", b, fmt.Sprintf("% x", was))
	clobber(b)
	is(t, "an event", y, event())
	b = append(EncodeStream(stream()), "spare"...)
	was = bytes.Clone(b)
	z, _, _ := DecodeStream(b[:len(b)-5])
	DecodeStream(b[:30])
	isHex(t, "a stream's bytes", b, fmt.Sprintf("% x", was))
	clobber(b)
	is(t, "a stream", z, stream())
}

func TestAnswered(t *testing.T) { // P9.6: what is answered is new memory, each list of its own
	b := Encode(batch("k", put("a", -1, "x"), put("b", -1, "y")))
	want := fmt.Sprintf("% x", b)
	x, _, _ := Decode(b)
	y, _, _ := Decode(b)
	x.Puts[0].Data = append(x.Puts[0].Data, "#")
	x.Puts[0].Data[0], x.Puts[1].Stream = "#", "#"
	is(t, "a list beside", x.Puts[1].Data, []string{"y"})
	is(t, "another batch", y, batch("k", put("a", -1, "x"), put("b", -1, "y")))
	clear(Encode(y))
	isHex(t, "the next one's bytes", Encode(y), want)
	m := batch("k", put("a", -1, "x"))
	l := Make(m, []int{1}, st(1, 2, 3), 0)
	l[0].Data = "#"
	is(t, "the next one's events", fmt.Sprint(Make(m, []int{1}, st(1, 2, 3), 0)), "[{a 1 x {1 2 3} 0}]")
	if unsafe.StringData(Make(m, nil, st(1, 2, 3), 0)[0].Stream) == unsafe.StringData(m.Puts[0].Stream) {
		t.Error("an event's Stream is the batch's")
	}
	if unsafe.StringData(Make(m, nil, st(1, 2, 3), 0)[0].Data) == unsafe.StringData(m.Puts[0].Data[0]) {
		t.Error("an event's Data is the batch's")
	}
	s := stream()
	clear(EncodeStream(s))
	clear(EncodeEvent(event()))
	u, _, _ := DecodeStream(EncodeStream(s))
	v, _, _ := DecodeStream(EncodeStream(s))
	clear(u.Events)
	clear(u.Keys)
	is(t, "another stream", v, stream())
}

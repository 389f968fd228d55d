package stamp

import (
	"bytes"
	"fmt"
	"math"
	"slices"
	"strconv"
	"strings"
	"testing"

	"penstock/api"
)

func st(wall, logic, node int) api.Stamp {
	return api.Stamp{Wall: wall, Logic: logic, Node: node}
}

// rising is stamps of which each is less than those behind it.
func rising() []api.Stamp {
	return []api.Stamp{
		st(math.MinInt, math.MaxInt, math.MaxInt), st(-2, 0, 0), st(-1, 9, 9),
		st(0, math.MinInt, 7), st(0, -1, 9), st(0, 0, math.MinInt), st(0, 0, -1), {}, st(0, 0, 1), st(0, 0, 5),
		st(0, 1, 0), st(0, 1, 2), st(0, 65535, 5), st(0, 65536, 0), st(1, -1, 0), st(1, 0, 0), st(1, 0, 5), st(1, 2, 0), st(2, 1, 0),
		st(1<<32, 0, 0), st(api.MaxWall, 0, 0), st(api.MaxWall, 65535, 5), st(api.MaxWall+1, 0, 0),
		st(math.MaxInt, math.MinInt, 0), st(math.MaxInt, 0, 0), st(math.MaxInt, math.MaxInt, math.MinInt), st(math.MaxInt, math.MaxInt, math.MaxInt),
	}
}

// row is numbers that look random, the same ones at each run.
func row(seed uint32) func(n int) int {
	return func(n int) int {
		seed = seed*1664525 + 1013904223
		return int(seed>>8) % n
	}
}

func isText(t *testing.T, what, got, want string) {
	t.Helper()
	if got != want {
		t.Errorf("%s:\n got %s\nwant %s", what, got, want)
	}
}

func isYes(t *testing.T, what string, got, want bool) {
	t.Helper()
	if got != want {
		t.Errorf("%s: %v, not %v", what, got, want)
	}
}

func isStamp(t *testing.T, what string, got, want api.Stamp) {
	t.Helper()
	if got != want {
		t.Errorf("%s: %v, not %v", what, got, want)
	}
}

func TestLess(t *testing.T) { // P7.1: by Wall, then Logic, then Node
	l := rising()
	for i, a := range l {
		for k, b := range l {
			isYes(t, fmt.Sprintf("%v is less than %v", a, b), Less(a, b), i < k)
		}
	}
}

func TestOrder(t *testing.T) { // P7.5: of two unlike ones one is less, and what is less than a lesser one is less
	var l []api.Stamp
	for n := range 27 {
		l = append(l, st(n%3-1, n/3%3-1, n/9-1))
	}
	for _, a := range l {
		for _, b := range l {
			if one, other := Less(a, b), Less(b, a); one && other || (one || other) != (a != b) {
				t.Errorf("%v and %v: %v, %v", a, b, one, other)
			}
			for _, c := range l {
				if Less(a, b) && Less(b, c) && !Less(a, c) {
					t.Errorf("%v, %v, %v", a, b, c)
				}
			}
		}
	}
}

func TestMaxMin(t *testing.T) { // P7.1
	for _, c := range []struct {
		l        []api.Stamp
		max, min api.Stamp
	}{
		{},
		{l: []api.Stamp{}},
		{l: []api.Stamp{{}}},
		{[]api.Stamp{st(1, 2, 3)}, st(1, 2, 3), st(1, 2, 3)},
		{[]api.Stamp{st(-1, 2, 3)}, st(-1, 2, 3), st(-1, 2, 3)},
		{[]api.Stamp{st(-3, 0, 0), st(-1, 0, 0), st(-2, 0, 0)}, st(-1, 0, 0), st(-3, 0, 0)},
		{[]api.Stamp{st(2, 0, 0), st(3, 0, 0), st(1, 0, 0)}, st(3, 0, 0), st(1, 0, 0)},
		{[]api.Stamp{st(2, 1, 1), st(2, 0, 5), st(2, 1, 0)}, st(2, 1, 1), st(2, 0, 5)},
		{[]api.Stamp{st(4, 4, 4), st(4, 4, 4)}, st(4, 4, 4), st(4, 4, 4)},
		{[]api.Stamp{{}, st(1, 0, 0), {}}, st(1, 0, 0), api.Stamp{}},
		{[]api.Stamp{st(0, 0, -1), {}}, api.Stamp{}, st(0, 0, -1)},
	} {
		isStamp(t, fmt.Sprint("Max of ", c.l), Max(c.l...), c.max)
		isStamp(t, fmt.Sprint("Min of ", c.l), Min(c.l...), c.min)
	}
	isStamp(t, "Max of none", Max(), api.Stamp{})
	isStamp(t, "Min of none", Min(), api.Stamp{})
}

func TestMaxMinWhere(t *testing.T) { // P7.1: wherever the greatest, the least one stands
	next := row(1)
	for many := 1; many <= 40; many++ {
		var l []api.Stamp
		for range many {
			l = append(l, st(next(3), next(3), next(3)))
		}
		sorted := slices.Clone(l)
		slices.SortFunc(sorted, func(a, b api.Stamp) int { return (a.Wall-b.Wall)*100 + (a.Logic-b.Logic)*10 + a.Node - b.Node })
		isStamp(t, fmt.Sprint("Max of ", l), Max(l...), sorted[many-1])
		isStamp(t, fmt.Sprint("Min of ", l), Min(l...), sorted[0])
	}
}

func TestSound(t *testing.T) { // P7.1
	for _, c := range []struct {
		n                 int
		wall, logic, node bool
	}{
		{math.MinInt, false, false, false}, {-1 << 32, false, false, false}, {-1, false, false, false},
		{0, true, true, true}, {1, true, true, true}, {5, true, true, true}, {6, true, true, false},
		{65534, true, true, false}, {65535, true, true, false}, {65536, true, false, false}, {1 << 32, true, false, false},
		{1<<50 - 1, true, false, false}, {1 << 50, true, false, false}, {1<<50 + 1, false, false, false}, {math.MaxInt, false, false, false},
	} {
		isYes(t, fmt.Sprint("Sound with Wall ", c.n), Sound(st(c.n, 0, 0)), c.wall)
		isYes(t, fmt.Sprint("Sound with Logic ", c.n), Sound(st(0, c.n, 0)), c.logic)
		isYes(t, fmt.Sprint("Sound with Node ", c.n), Sound(st(0, 0, c.n)), c.node)
	}
	isYes(t, "Sound of the greatest one", Sound(st(api.MaxWall, api.MaxLogic-1, api.MaxNodes)), true)
}

func TestText(t *testing.T) { // P7.2
	for _, c := range []struct {
		s    api.Stamp
		want string
	}{
		{st(5, 0, 1), "5.0@1"}, // the chapter's example
		{api.Stamp{}, "0.0@0"},
		{st(1, 2, 3), "1.2@3"},
		{st(10, 200, 4), "10.200@4"},
		{st(api.MaxWall, api.MaxLogic-1, api.MaxNodes), "1125899906842624.65535@5"},
		{st(-1, -20, -300), "-1.-20@-300"},
		{st(math.MaxInt, math.MaxInt, math.MaxInt), "9223372036854775807.9223372036854775807@9223372036854775807"},
		{st(math.MinInt, math.MinInt, math.MinInt), "-9223372036854775808.-9223372036854775808@-9223372036854775808"},
	} {
		isText(t, fmt.Sprint("Text of ", c.s), Text(c.s), c.want)
	}
}

// isParsed holds Parse against what is told of it: a Sound stamp gives its own text.
func isParsed(t *testing.T, s string, want api.Stamp, there bool) {
	t.Helper()
	x, ok := Parse(s)
	if ok != there || x != want {
		t.Errorf("Parse of %q: %v, %v, not %v, %v", s, x, ok, want, there)
	}
}

func TestParse(t *testing.T) { // P7.2
	for s, want := range map[string]api.Stamp{
		"5.0@1":                    st(5, 0, 1),
		"0.0@0":                    {},
		"10.20@3":                  st(10, 20, 3),
		"1125899906842624.65535@5": st(api.MaxWall, api.MaxLogic-1, api.MaxNodes),
		"1125899906842623.65534@4": st(api.MaxWall-1, api.MaxLogic-2, api.MaxNodes-1),
		"0.65535@0":                st(0, 65535, 0),
		"100000.0@0":               st(100000, 0, 0),
	} {
		isParsed(t, s, want, true)
	}
}

func TestParseNone(t *testing.T) { // P7.2: zero and false, if it is no Sound one's
	for _, s := range []string{
		"", ".", "@", ".@", "1", "1.", "1.1", "1.1@", "1@", "1@1", ".1@1", "1.@1", "1.1@ ", "@1", ".@1", "1.@", ".1@", "..@", "1@1.1", "1..1@1", "1.1@@1", "1.1.1@1", "1.1@1@", "1.1@1.1", "1.1@1@1", "1.1@1.",
		"1.1.1", "1@1@1", "111", "1,1@1", "1.1#1",
		"01.1@1", "1.01@1", "1.1@01", "00.0@0", "0.00@0", "0.0@00", "0000000000000000000000000000000000000000.0@1",
		"+1.1@1", "1.+1@1", "1.1@+1", "-1.1@1", "1.-1@1", "1.1@-1", "-0.0@0", "0.-0@0", "0.0@-0",
		" 1.1@1", "1 .1@1", "1. 1@1", "1.1 @1", "1.1@ 1", "1.1@1 ", "1.1@1\n", "1.1@1\x00", "\x001.1@1", "1_0.1@1", "0x1.1@1", "1e1.1@1", "a.1@1", "1.b@1", "1.1@c", "1:1@1", "1/1@1", "/.0@1", ":.0@1",
		"1125899906842625.0@1", "1125899906842630.0@1", "11258999068426240.0@1", "1.65536@1", "1.65540@1", "1.655350@1", "1.1@6", "1.1@10", "1.1@50",
		"9223372036854775807.0@1", "9223372036854775808.0@1", "18446744073709551616.0@1", "18446744073709551617.0@1", "0.18446744073709551616@1", "0.0@18446744073709551617", "99999999999999999999.0@1", "1.99999999999999999999@1", "1.1@99999999999999999999",
		"٣.0@1", "１.0@1", "1.0@１", "1．0@1", "1.0＠1", "²." + "0@1", "é.0@1", "\xff.0@1", "1\xff.0@1", "1.0@1\xff", "\xb1.0@1", "1.0@1\xc3", "\U000100312.0@1", "1.0@1�",
		strings.Repeat("9", 1000) + ".0@1", "1." + strings.Repeat("0", 1000) + "@1", strings.Repeat("1.1@1", 2), strings.Repeat(".", 1000), strings.Repeat("@", 1000),
	} {
		isParsed(t, s, api.Stamp{}, false)
	}
}

// plainNumber is a number's value, if its text is that of one from 0 up to most.
func plainNumber(s string, most int) (int, bool) {
	n, err := strconv.Atoi(s)
	return n, err == nil && n >= 0 && n <= most && strconv.Itoa(n) == s
}

// plainParse is Parse as the chapter's words say it.
func plainParse(s string) (api.Stamp, bool) {
	wall, rest, _ := strings.Cut(s, ".")
	logic, node, both := strings.Cut(rest, "@")
	w, ok1 := plainNumber(wall, 1<<50)
	l, ok2 := plainNumber(logic, 65535)
	n, ok3 := plainNumber(node, 5)
	if !both || !ok1 || !ok2 || !ok3 {
		return api.Stamp{}, false
	}
	return st(w, l, n), true
}

func TestParseNear(t *testing.T) { // P7.2: texts that are one change away from a stamp's
	for _, s := range []string{"5.0@1", "0.0@0", "10.20@3", "1125899906842624.65535@5"} {
		for i := 0; i <= len(s); i++ {
			for c := range 256 {
				near := s[:i] + string([]byte{byte(c)}) + s[i:]
				x, ok := plainParse(near)
				isParsed(t, near, x, ok)
				if i == len(s) {
					continue
				}
				near = s[:i] + string([]byte{byte(c)}) + s[i+1:]
				x, ok = plainParse(near)
				isParsed(t, near, x, ok)
			}
			if i < len(s) {
				near := s[:i] + s[i+1:]
				x, ok := plainParse(near)
				isParsed(t, near, x, ok)
			}
		}
	}
}

func TestParseShort(t *testing.T) { // P7.2: all texts of six signs at most
	signs, many := "0169.@-", 0
	var all func(s string)
	all = func(s string) {
		x, ok := plainParse(s)
		isParsed(t, s, x, ok)
		if ok {
			many++
		}
		if len(s) == 6 {
			return
		}
		for _, r := range signs {
			all(s + string(r))
		}
	}
	all("")
	if many != 4*4*2+2*(12*4*2) { // four numbers have one sign, twelve have two, and two of them may be nodes
		t.Errorf("%d of them are stamps", many)
	}
}

func TestEncode(t *testing.T) { // P7.3
	for _, c := range []struct {
		s    api.Stamp
		want string
	}{
		{api.Stamp{}, "00 00 00"},
		{st(5, 0, 1), "05 00 01"},
		{st(127, 128, 2), "7f 80 01 02"},
		{st(300, 16383, 3), "ac 02 ff 7f 03"},
		{st(1, 16384, 4), "01 80 80 01 04"},
		{st(api.MaxWall, api.MaxLogic-1, api.MaxNodes), "80 80 80 80 80 80 80 02 ff ff 03 05"},
		{st(api.MaxWall-1, 0, 0), "ff ff ff ff ff ff ff 01 00 00"},
		{st(api.MaxWall+1, 0, 0), ""}, {st(0, api.MaxLogic, 0), ""}, {st(0, 0, api.MaxNodes+1), ""},
		{st(-1, 0, 0), ""}, {st(0, -1, 0), ""}, {st(0, 0, -1), ""},
		{st(math.MinInt, 0, 0), ""}, {st(0, math.MinInt, 0), ""}, {st(0, 0, math.MinInt), ""},
		{st(math.MaxInt, math.MaxInt, math.MaxInt), ""},
	} {
		isText(t, fmt.Sprint("Encode of ", c.s), fmt.Sprintf("% x", Encode(c.s)), c.want)
	}
}

// isBad holds that no stamp is read.
func isBad(t *testing.T, what string, b []byte) {
	t.Helper()
	if s, n, e := Decode(b); s != (api.Stamp{}) || n != 0 || e != api.ErrBad {
		t.Errorf("Decode of %s (% x): %v, %d, %d", what, b, s, n, e)
	}
}

// isDecoded holds that a stamp is read, of so many bytes.
func isDecoded(t *testing.T, b []byte, want api.Stamp, size int) {
	t.Helper()
	if s, n, e := Decode(b); s != want || n != size || e != api.OK {
		t.Errorf("Decode of % x: %v, %d, %d, not %v, %d", b, s, n, e, want, size)
	}
}

func TestDecode(t *testing.T) { // P7.3, P7.5: what Encode lays, and nothing less
	for _, s := range rising() {
		b := Encode(s)
		if !Sound(s) {
			continue
		}
		for _, behind := range [][]byte{nil, {0}, {5}, {128}, {255, 255}, Encode(st(1, 2, 3))} {
			isDecoded(t, append(bytes.Clone(b), behind...), s, len(b))
		}
		for k := range b {
			isBad(t, fmt.Sprint(s, " cut at ", k), b[:k])
		}
	}
}

func TestDecodeBad(t *testing.T) { // P7.3
	isBad(t, "nothing", nil)
	for _, b := range [][]byte{{}, {1}, {1, 2}, {128}, {128, 128, 128}, {0, 129}, {0, 0, 129}} {
		isBad(t, "what does not end", b)
	}
	for what, b := range map[string][]byte{
		"a Wall that is longer than it": {128, 0, 0, 0},
		"a Logic that is longer":        {0, 129, 0, 0},
		"a Node that is longer":         {0, 0, 129, 0},
		"a Wall above":                  {129, 128, 128, 128, 128, 128, 128, 2, 0, 0},
		"a Wall of eight bytes":         {255, 255, 255, 255, 255, 255, 255, 127, 0, 0},
		"a Logic above":                 {0, 128, 128, 4, 0},
		"a Node above":                  {0, 0, 6},
		"a Node of two bytes":           {0, 0, 128, 1},
		"a Wall that fills an int":      {255, 255, 255, 255, 255, 255, 255, 255, 127, 0, 0},
		"a Wall that an int has not":    {128, 128, 128, 128, 128, 128, 128, 128, 128, 1, 0, 0},
		"a Wall of all digits":          {255, 255, 255, 255, 255, 255, 255, 255, 255, 1, 0, 0},
		"a Logic of all digits":         {0, 255, 255, 255, 255, 255, 255, 255, 255, 255, 1, 0},
		"a Node of all digits":          {0, 0, 255, 255, 255, 255, 255, 255, 255, 255, 255, 1},
		"a Node of a digit too many":    {0, 0, 129, 128, 128, 128, 128, 128, 128, 128, 128, 2},
		"a Wall of eleven bytes":        {129, 128, 128, 128, 128, 128, 128, 128, 128, 128, 1, 0, 0},
	} {
		isBad(t, what, b)
		isBad(t, what+", and more", append(b, 1, 1, 1))
	}
}

func TestDecodeBytes(t *testing.T) { // P7.3: all rows of three bytes
	for n := range 1 << 24 {
		b := [3]byte{byte(n), byte(n >> 8), byte(n >> 16)}
		s, size, e := Decode(b[:])
		if b[0] > 127 || b[1] > 127 || b[2] > 5 {
			if s != (api.Stamp{}) || size != 0 || e != api.ErrBad {
				t.Fatalf("% x: %v, %d, %d", b, s, size, e)
			}
		} else if s != st(int(b[0]), int(b[1]), int(b[2])) || size != 3 || e != api.OK {
			t.Fatalf("% x: %v, %d, %d", b, s, size, e)
		}
	}
}

func TestOf(t *testing.T) { // P7.4
	e := api.Event{Stream: "m", Version: 7, Data: "d", Stamp: st(5, 6, 1), Index: 3}
	if got, want := Of(e), (api.Cursor{Stamp: st(5, 6, 1), Index: 3, Stream: "m"}); got != want {
		t.Errorf("Of %v: %v", e, got)
	}
	if got := Of(api.Event{}); got != (api.Cursor{}) {
		t.Errorf("Of a zero event: %v", got)
	}
	e = api.Event{Stream: "\xff", Stamp: st(-1, math.MaxInt, math.MinInt), Index: -9}
	if got, want := Of(e), (api.Cursor{Stamp: e.Stamp, Index: -9, Stream: "\xff"}); got != want {
		t.Errorf("Of %v: %v", e, got)
	}
}

// places is places of which each is ahead of those behind it: by Stamp, then Index, then Stream.
func places() []api.Cursor {
	var l []api.Cursor
	for _, s := range rising() {
		for _, i := range []int{math.MinInt, -1, 0, 1, 2, math.MaxInt} {
			for _, name := range []string{"", "\x00", "A", "Z", "a", "a\x00", "aa", "b", "é", "😀", "\xff"} {
				l = append(l, api.Cursor{Stamp: s, Index: i, Stream: name})
			}
		}
	}
	return l
}

func TestBehind(t *testing.T) { // P7.4: by Stamp, then Index, then Stream
	l := places()
	for i, c := range l {
		e := api.Event{Stream: c.Stream, Version: 1, Data: "x", Stamp: c.Stamp, Index: c.Index}
		for k, d := range l {
			if Behind(e, d) != (i > k) {
				t.Fatalf("%v is behind %v: %v", c, d, Behind(e, d))
			}
		}
	}
}

func TestBehindElse(t *testing.T) { // P7.4: nothing else of an event tells
	for _, version := range []int{math.MinInt, -1, 0, 1, 2, math.MaxInt} {
		for _, data := range []string{"", "a", "z"} {
			e := api.Event{Stream: "m", Version: version, Data: data, Stamp: st(5, 0, 1), Index: 3}
			isYes(t, fmt.Sprint(e, " behind itself"), Behind(e, Of(e)), false)
			isYes(t, fmt.Sprint(e, " behind all"), Behind(e, api.Cursor{}), true)
			isYes(t, fmt.Sprint(e, " behind the one ahead"), Behind(e, api.Cursor{Stamp: e.Stamp, Index: 3, Stream: "l"}), true)
			isYes(t, fmt.Sprint(e, " behind the next one"), Behind(e, api.Cursor{Stamp: e.Stamp, Index: 3, Stream: "n"}), false)
		}
	}
	isYes(t, "a zero event behind a zero place", Behind(api.Event{}, api.Cursor{}), false)
}

func TestHandedIn(t *testing.T) { // P7.5: neither changed nor kept
	l := append(make([]api.Stamp, 0, 5), st(2, 0, 0), st(3, 0, 0), st(1, 0, 0))
	want := fmt.Sprint(l[:5])
	Max(l...)
	Min(l...)
	isText(t, "a list", fmt.Sprint(l[:5]), want)
	b := append(make([]byte, 0, 8), 172, 2, 7, 1, 9)
	Decode(b)
	Decode(b[:2])
	isText(t, "bytes", fmt.Sprint(b[:8]), "[172 2 7 1 9 0 0 0]")
}

func TestAnswered(t *testing.T) { // what is answered is new memory
	a, b := Encode(st(300, 7, 1)), Encode(st(300, 7, 1))
	for i := range a[:cap(a)] {
		a[:cap(a)][i] = '#'
	}
	isText(t, "another one's bytes", fmt.Sprintf("% x", b), "ac 02 07 01")
	isText(t, "the next one's bytes", fmt.Sprintf("% x", Encode(st(300, 7, 1))), "ac 02 07 01")
}

func TestLong(t *testing.T) { // P7.2, P7.3: a long row of Sound stamps, there and back
	next := row(7)
	var all []byte
	var l []api.Stamp
	for range 20000 {
		wall := (next(1<<24)<<26 | next(1<<24)<<2) >> next(50)
		s := st(wall, next(1<<16)>>next(16), next(6))
		isParsed(t, fmt.Sprintf("%d.%d@%d", s.Wall, s.Logic, s.Node), s, true)
		isText(t, fmt.Sprint("Text of ", s), Text(s), fmt.Sprintf("%d.%d@%d", s.Wall, s.Logic, s.Node))
		all = append(all, Encode(s)...)
		l = append(l, s)
	}
	for _, want := range l {
		s, n, e := Decode(all)
		if s != want || n == 0 || e != api.OK {
			t.Fatalf("%v, %d, %d, not %v", s, n, e, want)
		}
		all = all[n:]
	}
	if len(all) != 0 {
		t.Errorf("%d bytes are left", len(all))
	}
}

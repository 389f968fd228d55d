package net

import (
	"bytes"
	"fmt"
	"math"
	"strings"
	"testing"

	"penstock/api"
)

func packet(from, to int, s string) api.Packet {
	return api.Packet{From: from, To: to, Bytes: []byte(s)}
}

// told is a packet as a text.
func told(p api.Packet) string {
	return fmt.Sprintf("%d>%d:%s ", p.From, p.To, p.Bytes)
}

// row tells all packets of a net, the eldest first.
func row(n *Net) string {
	var out strings.Builder
	for k := range n.Len() {
		p, there := n.Peek(k)
		if !there {
			fmt.Fprintf(&out, "no %d of %d ", k, n.Len())
		}
		out.WriteString(told(p))
	}
	return out.String()
}

// abc is a net with three packets, of which the middle one goes the other way.
func abc() *Net {
	n := New()
	n.Send(packet(1, 2, "a"), packet(2, 1, "b"), packet(1, 3, "c"))
	return n
}

// full is a net in which MaxQueue packets stand, all told apart.
func full(t *testing.T) *Net {
	t.Helper()
	n := New()
	for i := range api.MaxQueue {
		isNumber(t, fmt.Sprint("Send of packet ", i), n.Send(packet(1, 2, fmt.Sprint(i))), 1)
	}
	isNumber(t, "Len", n.Len(), api.MaxQueue)
	return n
}

func isNumber(t *testing.T, what string, got, want int) {
	t.Helper()
	if got != want {
		t.Errorf("%s: %d, not %d", what, got, want)
	}
}

func isYes(t *testing.T, what string, got, want bool) {
	t.Helper()
	if got != want {
		t.Errorf("%s: %v, not %v", what, got, want)
	}
}

func isRow(t *testing.T, what string, n *Net, want string) {
	t.Helper()
	if got := row(n); got != want {
		t.Errorf("%s:\n got %s\nwant %s", what, got, want)
	}
}

func isPacket(t *testing.T, what string, p api.Packet, there bool, want string) {
	t.Helper()
	if !there || told(p) != want {
		t.Errorf("%s: %s, %v, not %s", what, told(p), there, want)
	}
}

// isNone asks for what stands beside a false: no field of a packet.
func isNone(t *testing.T, what string, p api.Packet, there bool) {
	t.Helper()
	if there || p.From != 0 || p.To != 0 || p.Bytes != nil {
		t.Errorf("%s: %v, %v", what, p, there)
	}
}

// strange is numbers of no packet of a row of so many.
func strange(many int) []int {
	return []int{-1, -2, -many, math.MinInt, many, many + 1, api.MaxQueue, 1 << 32, math.MaxInt}
}

func TestSend(t *testing.T) { // P6.1
	n := New()
	isNumber(t, "Send of none", n.Send(), 0)
	isNumber(t, "Send of no list", n.Send([]api.Packet(nil)...), 0)
	isRow(t, "none", n, "")
	isNumber(t, "Send of two", n.Send(packet(2, 1, "a"), packet(1, 2, "b")), 2)
	isRow(t, "each in turn", n, "2>1:a 1>2:b ")
	isNumber(t, "Send of one", n.Send(packet(3, 4, "")), 1)
	isNumber(t, "Send of one that is there", n.Send(packet(2, 1, "a")), 1)
	isRow(t, "behind the others", n, "2>1:a 1>2:b 3>4: 2>1:a ")
}

func TestExample(t *testing.T) {
	n := New()
	n.Send(packet(1, 2, "a"), packet(2, 1, "b"))
	p, there := n.Deliver(1)
	isPacket(t, "Deliver(1)", p, there, "2>1:b ")
}

func TestSendNodes(t *testing.T) { // P6.1: From and To are 1 to MaxNodes and not the same
	ends := []int{math.MinInt, -1<<32 + 1, -1, 0, 1, 2, 3, 4, 5, 6, 7, 1<<32 + 1, math.MaxInt}
	for _, from := range ends {
		for _, to := range ends {
			n, want := New(), 0
			if from >= 1 && from <= 5 && to >= 1 && to <= 5 && from != to {
				want = 1
			}
			isNumber(t, fmt.Sprintf("Send from %d to %d", from, to), n.Send(packet(from, to, "a")), want)
			isNumber(t, fmt.Sprintf("Len behind one from %d to %d", from, to), n.Len(), want)
		}
	}
}

func TestSendBytes(t *testing.T) { // P6.1: MaxFrame bytes at most
	for size, want := range map[int]int{
		0: 1, 1: 1, api.MaxFrame - 1: 1, api.MaxFrame: 1, api.MaxFrame + 1: 0, 2 * api.MaxFrame: 0,
	} {
		n := New()
		isNumber(t, fmt.Sprint("Send of bytes ", size), n.Send(api.Packet{From: 1, To: 2, Bytes: make([]byte, size)}), want)
		isNumber(t, fmt.Sprint("Len behind bytes ", size), n.Len(), want)
		if p, _ := n.Deliver(0); want == 1 && len(p.Bytes) != size {
			t.Errorf("%d bytes: %d are delivered", size, len(p.Bytes))
		}
	}
	n := New()
	isNumber(t, "Send of no bytes at all", n.Send(api.Packet{From: 1, To: 2}), 1)
	isRow(t, "no bytes at all", n, "1>2: ")
}

func TestSendSome(t *testing.T) { // P6.1: what is lost takes no other with it
	n := New()
	big := strings.Repeat("x", api.MaxFrame+1)
	isNumber(t, "Send", n.Send(packet(0, 1, "a"), packet(1, 2, "b"), packet(2, 2, "c"), packet(1, 3, big), packet(3, 1, "d"), packet(1, 6, "e")), 2)
	isRow(t, "those that may stand", n, "1>2:b 3>1:d ")
}

func TestRoom(t *testing.T) { // P6.1, P6.2: MaxQueue at most
	n := full(t)
	want := row(n)
	isNumber(t, "Send of one more", n.Send(packet(3, 4, "x")), 0)
	isYes(t, "Twice of the first one", n.Twice(0), false)
	isYes(t, "Twice of the last one", n.Twice(api.MaxQueue-1), false)
	isRow(t, "full", n, want)
	isYes(t, "Drop", n.Drop(0), true)
	isYes(t, "Twice, where there is room for one", n.Twice(0), true)
	isYes(t, "Twice again", n.Twice(0), false)
	n.Deliver(api.MaxQueue - 1)
	n.Deliver(api.MaxQueue - 2)
	isNumber(t, "Send of four, of which one may not be", n.Send(packet(1, 1, "w"), packet(3, 4, "x"), packet(3, 4, "y"), packet(3, 4, "z")), 2)
	isNumber(t, "Len", n.Len(), api.MaxQueue)
	if got := row(n); !strings.HasPrefix(got, "1>2:1 1>2:2 ") || !strings.HasSuffix(got, " 1>2:197 1>2:198 3>4:x 3>4:y ") {
		t.Errorf("full again: %s", got)
	}
	isNumber(t, "Clear", n.Clear(3), 2)
	isNumber(t, "Send behind Clear", n.Send(packet(1, 3, "x"), packet(1, 3, "y"), packet(1, 3, "z")), 2)
}

func TestSendAll(t *testing.T) { // P6.1: of more packets than there is room for the first ones stand
	var l []api.Packet
	for i := range api.MaxQueue + 7 {
		l = append(l, packet(i%5+1, 5, fmt.Sprint(i))) // each fifth one goes to itself
	}
	n := New()
	isNumber(t, "Send", n.Send(l...), len(l)-len(l)/5)
	n.Clear(5)
	isNumber(t, "Send of twice as many", n.Send(append(l, l...)...), api.MaxQueue)
	first, _ := n.Peek(0)
	last, there := n.Peek(api.MaxQueue - 1)
	isPacket(t, "the first one", first, true, "1>5:0 ")
	isPacket(t, "the last one", last, there, "2>5:41 ")
}

func TestPeek(t *testing.T) { // P6.2
	n := abc()
	for k, want := range []string{"1>2:a ", "2>1:b ", "1>3:c "} {
		p, there := n.Peek(k)
		isPacket(t, fmt.Sprint("Peek of ", k), p, there, want)
	}
	isRow(t, "all are still there", n, "1>2:a 2>1:b 1>3:c ")
	for _, k := range strange(3) {
		p, there := n.Peek(k)
		isNone(t, fmt.Sprint("Peek of ", k), p, there)
	}
}

func TestDeliver(t *testing.T) { // P6.2
	for k, want := range []string{"2>1:b 1>3:c ", "1>2:a 1>3:c ", "1>2:a 2>1:b "} {
		n := abc()
		is, _ := n.Peek(k)
		p, there := n.Deliver(k)
		isPacket(t, fmt.Sprint("Deliver of ", k), p, there, told(is))
		isRow(t, fmt.Sprint("behind Deliver of ", k), n, want)
	}
	n := abc()
	for _, k := range strange(3) {
		p, there := n.Deliver(k)
		isNone(t, fmt.Sprint("Deliver of ", k), p, there)
	}
	isRow(t, "all are still there", n, "1>2:a 2>1:b 1>3:c ")
	for range 3 {
		n.Deliver(0)
	}
	p, there := n.Deliver(0)
	isNone(t, "Deliver of an empty net", p, there)
	isNumber(t, "Send of a net that was emptied", n.Send(packet(1, 2, "d")), 1)
	isRow(t, "a net that was emptied", n, "1>2:d ")
}

func TestDrop(t *testing.T) { // P6.2
	for k, want := range []string{"2>1:b 1>3:c ", "1>2:a 1>3:c ", "1>2:a 2>1:b "} {
		n := abc()
		isYes(t, fmt.Sprint("Drop of ", k), n.Drop(k), true)
		isRow(t, fmt.Sprint("behind Drop of ", k), n, want)
	}
	n := abc()
	for _, k := range strange(3) {
		isYes(t, fmt.Sprint("Drop of ", k), n.Drop(k), false)
	}
	isRow(t, "all are still there", n, "1>2:a 2>1:b 1>3:c ")
	isYes(t, "Drop of an empty net", New().Drop(0), false)
}

func TestTwice(t *testing.T) { // P6.2
	for k, want := range []string{"1>2:a ", "2>1:b ", "1>3:c "} {
		n := abc()
		isYes(t, fmt.Sprint("Twice of ", k), n.Twice(k), true)
		isRow(t, fmt.Sprint("behind Twice of ", k), n, "1>2:a 2>1:b 1>3:c "+want)
	}
	n := abc()
	for _, k := range strange(3) {
		isYes(t, fmt.Sprint("Twice of ", k), n.Twice(k), false)
	}
	isRow(t, "as they were", n, "1>2:a 2>1:b 1>3:c ")
	n.Twice(1)
	n.Twice(3)
	isRow(t, "twice of what stands twice", n, "1>2:a 2>1:b 1>3:c 2>1:b 2>1:b ")
	isYes(t, "Twice of an empty net", New().Twice(0), false)
}

func TestClear(t *testing.T) { // P6.2
	const all = "1>2:a 2>1:b 2>4:c 5>2:d 3>1:e 1>3:f 1>2:g "
	for _, c := range []struct {
		node, many int
		want       string
	}{
		{1, 5, "2>4:c 5>2:d "},
		{2, 5, "3>1:e 1>3:f "},
		{3, 2, "1>2:a 2>1:b 2>4:c 5>2:d 1>2:g "},
		{4, 1, "1>2:a 2>1:b 5>2:d 3>1:e 1>3:f 1>2:g "},
		{5, 1, "1>2:a 2>1:b 2>4:c 3>1:e 1>3:f 1>2:g "},
		{0, 0, all}, {6, 0, all}, {-1, 0, all}, {math.MinInt, 0, all}, {math.MaxInt, 0, all}, {1<<32 + 1, 0, all},
	} {
		n := New()
		n.Send(packet(1, 2, "a"), packet(2, 1, "b"), packet(2, 4, "c"), packet(5, 2, "d"), packet(3, 1, "e"), packet(1, 3, "f"), packet(1, 2, "g"))
		isNumber(t, fmt.Sprint("Clear of ", c.node), n.Clear(c.node), c.many)
		isRow(t, fmt.Sprint("behind Clear of ", c.node), n, c.want)
		isNumber(t, fmt.Sprint("Clear of ", c.node, " again"), n.Clear(c.node), 0)
	}
	isNumber(t, "Clear of an empty net", New().Clear(1), 0)
}

func TestZero(t *testing.T) { // P6.3: a zero Net is a new one
	isNumber(t, "Len", new(Net).Len(), 0)
	isNumber(t, "Clear", new(Net).Clear(1), 0)
	isYes(t, "Drop", new(Net).Drop(0), false)
	isYes(t, "Twice", new(Net).Twice(0), false)
	p, there := new(Net).Deliver(0)
	isNone(t, "Deliver", p, there)
	var n Net
	isNumber(t, "Send", n.Send(packet(1, 2, "a"), packet(2, 1, "b")), 2)
	isYes(t, "Twice of one that was sent", n.Twice(0), true)
	isRow(t, "a zero one", &n, "1>2:a 2>1:b 1>2:a ")
}

func TestNil(t *testing.T) { // P6.3: a nil Net has none, and takes none
	var n *Net
	isNumber(t, "Send of none", n.Send(), 0)
	isNumber(t, "Send", n.Send(packet(1, 2, "a"), packet(2, 1, "b")), 0)
	isNumber(t, "Len", n.Len(), 0)
	for _, k := range append(strange(1), 0) {
		p, there := n.Peek(k)
		isNone(t, fmt.Sprint("Peek of ", k), p, there)
		p, there = n.Deliver(k)
		isNone(t, fmt.Sprint("Deliver of ", k), p, there)
		isYes(t, fmt.Sprint("Drop of ", k), n.Drop(k), false)
		isYes(t, fmt.Sprint("Twice of ", k), n.Twice(k), false)
		isNumber(t, fmt.Sprint("Clear of ", k), n.Clear(k), 0)
	}
}

func TestHandedIn(t *testing.T) { // P6.4: what is handed in is neither changed nor kept
	room := []byte("abcdefgh")
	l := append(make([]api.Packet, 0, 4), api.Packet{From: 1, To: 2, Bytes: room[:3]}, api.Packet{From: 2, To: 1, Bytes: room[3:5]})
	n := New()
	n.Send(l...)
	n.Twice(0)
	n.Send(packet(1, 2, "z"))
	n.Deliver(1)
	n.Clear(1)
	if string(room) != "abcdefgh" || len(l) != 2 || told(l[0]) != "1>2:abc " || told(l[1]) != "2>1:de " {
		t.Errorf("changed: %s, %v", room, l)
	}
	if spare := l[:4]; spare[2].From != 0 || spare[3].From != 0 {
		t.Errorf("the list's spare room: %v", spare)
	}
	n.Send(l...)
	copy(room, "XXXXXXXX")
	l[0], l[1] = l[1], l[0]
	isRow(t, "kept", n, "1>2:abc 2>1:de ")
}

// scribble writes over all of a packet's bytes, and over their spare room.
func scribble(p api.Packet) {
	b := p.Bytes[:cap(p.Bytes)]
	for i := range b {
		b[i] = '#'
	}
}

func TestAnswered(t *testing.T) { // P6.4: what is answered is new memory
	n := New()
	n.Send(packet(1, 2, "abc"), packet(2, 1, "de"))
	n.Twice(0)
	n.Twice(0)
	want := "1>2:abc 2>1:de 1>2:abc 1>2:abc "
	for k := range n.Len() {
		p, _ := n.Peek(k)
		scribble(p)
		isRow(t, fmt.Sprint("behind Peek of ", k), n, want)
	}
	first, _ := n.Deliver(0)
	scribble(first)
	isRow(t, "behind Deliver of one that stands twice more", n, "2>1:de 1>2:abc 1>2:abc ")
	second, _ := n.Deliver(2)
	third, _ := n.Peek(1)
	scribble(second)
	isPacket(t, "the third one, peeked at", third, true, "1>2:abc ")
	isRow(t, "behind Deliver of another", n, "2>1:de 1>2:abc ")
	n.Send(packet(4, 5, "xyz"))
	if string(first.Bytes) != "###" || string(second.Bytes) != "###" {
		t.Errorf("delivered, and then: %s %s", first.Bytes, second.Bytes)
	}
}

func TestAsSent(t *testing.T) { // P6.4: what is delivered was sent, as it was sent
	all := make([]byte, 256)
	for i := range all {
		all[i] = byte(i)
	}
	big := bytes.Repeat(all, api.MaxFrame/len(all))
	n := New()
	isNumber(t, "Send", n.Send(api.Packet{From: 5, To: 1, Bytes: all}, api.Packet{From: 4, To: 2, Bytes: big}), 2)
	n.Twice(1)
	for _, want := range []api.Packet{{From: 5, To: 1, Bytes: all}, {From: 4, To: 2, Bytes: big}, {From: 4, To: 2, Bytes: big}} {
		p, there := n.Deliver(0)
		if !there || p.From != want.From || p.To != want.To || !bytes.Equal(p.Bytes, want.Bytes) {
			t.Errorf("from %d to %d, %d bytes: not as sent", p.From, p.To, len(p.Bytes))
		}
	}
}

func TestApart(t *testing.T) { // two nets have nothing in common
	a, b := New(), New()
	a.Send(packet(1, 2, "a"))
	b.Send(packet(2, 1, "b"))
	isRow(t, "one", a, "1>2:a ")
	isRow(t, "another", b, "2>1:b ")
	b.Clear(1)
	isRow(t, "one, where another is emptied", a, "1>2:a ")
}

// plain is a row of packets as the chapter's words say it: texts, put together anew at each call.
type plain []string

func (l plain) out(k int) plain {
	var left plain
	for i, s := range l {
		if i != k {
			left = append(left, s)
		}
	}
	return left
}

func (l plain) clear(node int) plain {
	var left plain
	for _, s := range l {
		if s[0] != byte('0'+node) && s[2] != byte('0'+node) {
			left = append(left, s)
		}
	}
	return left
}

func TestLong(t *testing.T) { // P6.1 to P6.4: a long row of calls, held against the chapter's words
	seed := uint32(6)
	next := func(n int) int {
		seed = seed*1664525 + 1013904223
		return int(seed>>16) % n
	}
	n, l, most := New(), plain{}, 0
	for i := range 20000 {
		k := next(len(l)+2) - 1
		there := k >= 0 && k < len(l)
		switch op := next(100); {
		case op < 40:
			p := packet(next(7), next(7), fmt.Sprint(i))
			ok := p.From%6 != 0 && p.To%6 != 0 && p.From != p.To && len(l) < 200
			isNumber(t, "Send", n.Send(p), map[bool]int{true: 1}[ok])
			if ok {
				l = append(l, told(p))
			}
		case op < 60:
			ok := there && len(l) < 200
			isYes(t, "Twice", n.Twice(k), ok)
			if ok {
				l = append(l, l[k])
			}
		case op < 75:
			p, ok := n.Deliver(k)
			isYes(t, "Deliver", ok, there)
			if there {
				isPacket(t, "Deliver", p, ok, l[k])
				l = l.out(k)
			}
		case op < 90:
			isYes(t, "Drop", n.Drop(k), there)
			l = l.out(k)
		case next(200) == 0:
			node := next(7)
			left := l.clear(node)
			isNumber(t, "Clear", n.Clear(node), len(l)-len(left))
			l = left
		}
		most = max(most, len(l))
		isNumber(t, "Len", n.Len(), len(l))
		if got, want := row(n), strings.Join(l, ""); got != want || t.Failed() {
			t.Fatalf("call %d:\n got %s\nwant %s", i, got, want)
		}
	}
	isNumber(t, "the most that stood", most, api.MaxQueue)
}

package disk

import (
	"bytes"
	"fmt"
	"math"
	"slices"
	"strings"
	"testing"

	"penstock/api"
)

// made is a new disk.
func made(t *testing.T, room int) *Disk {
	t.Helper()
	d, e := New(room)
	if e != api.OK || d == nil {
		t.Fatalf("New(%d): %v, %d", room, d, e)
	}
	return d
}

// held tells all that can be read of a disk.
func held(d *Disk) string {
	var out strings.Builder
	for _, name := range d.Names() {
		b, e := d.Read(name)
		fmt.Fprintf(&out, "%q=%q,%d ", name, b, e)
	}
	return out.String()
}

func isCode(t *testing.T, what string, got, want api.Errno) {
	t.Helper()
	if got != want {
		t.Errorf("%s: %d, not %d", what, got, want)
	}
}

func isHeld(t *testing.T, what string, d *Disk, want string) {
	t.Helper()
	if got := held(d); got != want {
		t.Errorf("%s:\n got %s\nwant %s", what, got, want)
	}
}

// abc is a disk with a file that is synced in part, one that is not at all, one that is whole, and an empty one.
func abc(t *testing.T) *Disk {
	t.Helper()
	d := made(t, 100)
	d.Append("b", []byte("loose"))
	d.Append("a", []byte("fast"))
	d.Sync("a")
	d.Append("a", []byte("loo"))
	d.Append("d", nil)
	d.Append("c", []byte("whole"))
	d.Sync("c")
	return d
}

func TestNew(t *testing.T) { // P5.1
	for room, want := range map[int]api.Errno{
		-1: api.ErrArg, math.MinInt: api.ErrArg, api.MaxDisk + 1: api.ErrArg, math.MaxInt: api.ErrArg,
		0: api.OK, 1: api.OK, api.MaxDisk: api.OK,
	} {
		d, e := New(room)
		if e != want || (d == nil) != (want != api.OK) {
			t.Errorf("New(%d): %v, %d", room, d, e)
		}
		if d.Ops() != 0 || len(d.Names()) != 0 {
			t.Errorf("New(%d): not empty", room)
		}
	}
}

func TestOps(t *testing.T) { // P5.1: an op is one whatever it answers; what only looks is none
	d := made(t, 3)
	for i, op := range []func() api.Errno{
		func() api.Errno { return d.Append("a", []byte("xyz")) },
		func() api.Errno { return d.Append("", nil) },
		func() api.Errno { return d.Append("a", []byte("1")) },
		func() api.Errno { return d.Sync("a") },
		func() api.Errno { return d.Sync("q") },
		func() api.Errno { return d.Rename("q", "a") },
		func() api.Errno { return d.Rename("a", "") },
		func() api.Errno { return d.Rename("a", "a") },
		func() api.Errno { return d.Remove("q") },
		func() api.Errno { return d.Remove("a") },
	} {
		op()
		if d.Ops() != i+1 {
			t.Errorf("op %d: %d ops", i, d.Ops())
		}
	}
	d.Read("a")
	d.Names()
	d.Cut(7)
	d.Copy()
	d.Crash(nil)
	if d.Ops() != 10 {
		t.Errorf("%d ops", d.Ops())
	}
}

func TestCut(t *testing.T) { // P5.1
	for _, n := range []int{math.MinInt, -1, 0, 1, 2, 3, 4, 5, 6, 7, math.MaxInt} {
		d := abc(t)
		d.Cut(n)
		was := d.Ops()
		for i, op := range []struct {
			do   func() api.Errno
			want api.Errno
		}{
			{func() api.Errno { return d.Append("", nil) }, api.ErrArg},
			{func() api.Errno { return d.Append("e", []byte("new")) }, api.OK},
			{func() api.Errno { return d.Sync("q") }, api.ErrNone},
			{func() api.Errno { return d.Rename("c", "") }, api.ErrArg},
			{func() api.Errno { return d.Rename("c", "a") }, api.OK},
			{func() api.Errno { return d.Remove("b") }, api.OK},
			{func() api.Errno { return d.Remove("b") }, api.ErrNone},
		} {
			before, want := held(d), op.want
			if i >= n {
				want = api.ErrOff
			}
			isCode(t, fmt.Sprintf("Cut(%d), op %d", n, i), op.do(), want)
			if want != api.OK {
				isHeld(t, fmt.Sprintf("Cut(%d), op %d", n, i), d, before)
			}
		}
		if d.Ops() != was+7 {
			t.Errorf("Cut(%d): %d ops behind %d", n, d.Ops(), was)
		}
	}
}

func TestOffFirst(t *testing.T) { // P5.2: ErrOff is looked for ahead of all else, and nothing is done
	d := abc(t)
	d.Cut(0)
	before, crashed := held(d), held(d.Crash(nil))
	for what, e := range map[string]api.Errno{
		"Append of no name":  d.Append("", nil),
		"Append of too much": d.Append("a", make([]byte, 200)),
		"Append":             d.Append("new", nil),
		"Sync of none":       d.Sync("q"),
		"Sync":               d.Sync("a"),
		"Rename of none":     d.Rename("q", ""),
		"Rename to itself":   d.Rename("a", "a"),
		"Rename":             d.Rename("a", "b"),
		"Remove of none":     d.Remove("q"),
		"Remove":             d.Remove("a"),
	} {
		isCode(t, what, e, api.ErrOff)
	}
	isHeld(t, "off", d, before)
	isHeld(t, "off, crashed", d.Crash(nil), crashed)
}

func TestLaterCut(t *testing.T) { // P5.1: a later Cut takes the place of an earlier one, whichever is the greater
	d := made(t, 9)
	d.Cut(1)
	d.Cut(2)
	isCode(t, "1", d.Append("a", nil), api.OK)
	isCode(t, "2", d.Append("b", nil), api.OK)
	isCode(t, "3", d.Append("c", nil), api.ErrOff)
	d.Cut(1)
	isCode(t, "4", d.Append("c", nil), api.OK)
	isCode(t, "5", d.Append("d", nil), api.ErrOff)
	d.Cut(5)
	d.Cut(0)
	isCode(t, "6", d.Append("d", nil), api.ErrOff)
	isHeld(t, "cut", d, `"a"="",0 "b"="",0 "c"="",0 `)
}

func TestAppend(t *testing.T) { // P5.2
	long := strings.Repeat("é", 50) // 100 bytes, but 50 runes
	d := made(t, 6)
	isCode(t, "no name", d.Append("", []byte("a")), api.ErrArg)
	isCode(t, "101 bytes", d.Append(long+"e", []byte("a")), api.ErrArg)
	isCode(t, "a name ahead of room", d.Append("", make([]byte, 7)), api.ErrArg)
	isCode(t, "more than room", d.Append("a", make([]byte, 7)), api.ErrFull)
	isHeld(t, "refused", d, "")
	isCode(t, "100 bytes", d.Append(long, []byte("12")), api.OK)
	isCode(t, "bytes of no text", d.Append("\xff\x00", []byte("3")), api.OK)
	isCode(t, "one more than room", d.Append("a", []byte("4567")), api.ErrFull)
	isCode(t, "one more than room, at a file", d.Append(long, []byte("4567")), api.ErrFull)
	isCode(t, "all room", d.Append(long, []byte("456")), api.OK)
	isCode(t, "nothing, where there is no room", d.Append("a", nil), api.OK)
	isCode(t, "a byte, where there is no room", d.Append("a", []byte("7")), api.ErrFull)
	isHeld(t, "appended", d, `"a"="",0 "`+long+`"="12456",0 "\xff\x00"="3",0 `)
	isHeld(t, "there for good, its bytes not", d.Crash(nil), `"a"="",0 "`+long+`"="",0 "\xff\x00"="",0 `)
}

func TestRoom(t *testing.T) { // P5.2: bytes that are gone make room again, those that are only renamed do not
	d := made(t, 10)
	d.Append("a", []byte("1234"))
	d.Append("b", []byte("567"))
	d.Rename("a", "c")
	isCode(t, "renamed", d.Append("c", []byte("1234")), api.ErrFull)
	d.Rename("c", "c")
	isCode(t, "renamed to itself", d.Append("c", []byte("1234")), api.ErrFull)
	d.Rename("c", "b")
	isCode(t, "one more than over another", d.Append("b", []byte("1234567")), api.ErrFull)
	isCode(t, "renamed over another", d.Append("b", []byte("123456")), api.OK)
	isCode(t, "removed", d.Remove("b"), api.OK)
	isCode(t, "one more", d.Append("b", make([]byte, 11)), api.ErrFull)
	isCode(t, "all", d.Append("b", make([]byte, 10)), api.OK)
	full := made(t, api.MaxDisk)
	isCode(t, "the greatest disk", full.Append("a", make([]byte, api.MaxDisk)), api.OK)
	isCode(t, "the greatest disk, one more", full.Append("a", make([]byte, 1)), api.ErrFull)
}

func TestFiles(t *testing.T) { // P5.2
	d := made(t, 1)
	for i := range api.MaxFiles {
		if e := d.Append(fmt.Sprint("f", i), nil); e != api.OK {
			t.Fatalf("file %d: %d", i, e)
		}
	}
	isCode(t, "a name ahead of the number", d.Append("", nil), api.ErrArg)
	isCode(t, "one more", d.Append("x", nil), api.ErrFull)
	isCode(t, "one that is there", d.Append("f7", []byte("x")), api.OK)
	isCode(t, "another name", d.Rename("f1", "x"), api.OK)
	isCode(t, "one more", d.Append("f1", nil), api.ErrFull)
	isCode(t, "one over another", d.Rename("x", "f2"), api.OK)
	isCode(t, "one again", d.Append("f1", nil), api.OK)
	isCode(t, "one more", d.Append("x", nil), api.ErrFull)
	d.Remove("f3")
	isCode(t, "one again", d.Append("x", nil), api.OK)
	if len(d.Names()) != api.MaxFiles || len(d.Crash(nil).Names()) != api.MaxFiles {
		t.Errorf("%d files", len(d.Names()))
	}
}

func TestSync(t *testing.T) { // P5.2, P5.5
	d := made(t, 100)
	isCode(t, "none", d.Sync("a"), api.ErrNone)
	isCode(t, "no name", d.Sync(""), api.ErrNone)
	isHeld(t, "none", d, "")
	d.Append("a", []byte("123"))
	d.Append("b", []byte("456"))
	isCode(t, "a", d.Sync("a"), api.OK)
	isHeld(t, "that one alone", d.Crash(nil), `"a"="123",0 "b"="",0 `)
	d.Append("a", []byte("78"))
	isHeld(t, "what was synced", d.Crash(nil), `"a"="123",0 "b"="",0 `)
	isCode(t, "again", d.Sync("a"), api.OK)
	isCode(t, "and again", d.Sync("a"), api.OK)
	isHeld(t, "all its bytes", d.Crash(nil), `"a"="12378",0 "b"="",0 `)
}

func TestRename(t *testing.T) { // P5.2
	d := abc(t)
	before := held(d)
	isCode(t, "none", d.Rename("q", "a"), api.ErrNone)
	isCode(t, "none ahead of no name", d.Rename("q", ""), api.ErrNone)
	isCode(t, "none to itself", d.Rename("q", "q"), api.ErrNone)
	isCode(t, "to no name", d.Rename("a", ""), api.ErrArg)
	isCode(t, "to 101 bytes", d.Rename("a", strings.Repeat("n", 101)), api.ErrArg)
	isCode(t, "to itself", d.Rename("a", "a"), api.OK)
	isHeld(t, "as it was", d, before)
	isHeld(t, "as it was, crashed", d.Crash(nil), `"a"="fast",0 "b"="",0 "c"="whole",0 "d"="",0 `)
	isCode(t, "to 100 bytes", d.Rename("d", strings.Repeat("n", 100)), api.OK)
	isCode(t, "back", d.Rename(strings.Repeat("n", 100), "d"), api.OK)
	isCode(t, "over another", d.Rename("a", "c"), api.OK)
	isHeld(t, "over another", d, `"b"="loose",0 "c"="fastloo",0 "d"="",0 `)
	isHeld(t, "for good, with what was synced of it", d.Crash(nil), `"b"="",0 "c"="fast",0 "d"="",0 `)
	isCode(t, "over what is synced", d.Rename("b", "c"), api.OK)
	isHeld(t, "what was synced is gone with its file", d.Crash([]int{2}), `"c"="lo",0 "d"="",0 `)
}

func TestRemove(t *testing.T) { // P5.2
	d := abc(t)
	isCode(t, "none", d.Remove("q"), api.ErrNone)
	isCode(t, "no name", d.Remove(""), api.ErrNone)
	isCode(t, "c", d.Remove("c"), api.OK)
	isCode(t, "c again", d.Remove("c"), api.ErrNone)
	isHeld(t, "removed", d, `"a"="fastloo",0 "b"="loose",0 "d"="",0 `)
	isHeld(t, "for good", d.Crash(nil), `"a"="fast",0 "b"="",0 "d"="",0 `)
	d.Append("c", []byte("x"))
	isHeld(t, "another one of its name", d, `"a"="fastloo",0 "b"="loose",0 "c"="x",0 "d"="",0 `)
	isHeld(t, "another one of its name, crashed", d.Crash(nil), `"a"="fast",0 "b"="",0 "c"="",0 "d"="",0 `)
}

func TestRead(t *testing.T) { // P5.3
	d := abc(t)
	for _, name := range []string{"", "q", "A", "aa"} {
		if b, e := d.Read(name); b != nil || e != api.ErrNone {
			t.Errorf("Read(%q): %q, %d", name, b, e)
		}
	}
	isHeld(t, "read", d, `"a"="fastloo",0 "b"="loose",0 "c"="whole",0 "d"="",0 `)
	d.Cut(0)
	isHeld(t, "off, and read", d, `"a"="fastloo",0 "b"="loose",0 "c"="whole",0 "d"="",0 `)
}

func TestNames(t *testing.T) { // P5.3
	// By their runes \xff, which is none, would be U+FFFD, ahead of what lies above it.
	want := []string{"\x00", " ", "10", "2", "A", "a", "a\x00", "aa", "ab", "b", "é", "ﬀ", "\U0001f600", "\xfe", "\xff", "\xffa"}
	d := made(t, 100)
	for i := range want {
		d.Append(want[(i*7+3)%len(want)], []byte{byte(i)})
	}
	if got := d.Names(); !slices.Equal(got, want) {
		t.Errorf("Names: %q", got)
	}
}

func TestCrash(t *testing.T) { // P5.3
	for _, c := range []struct {
		picks []int
		a, b  int // of the others: how many stay, of 3 and of 5
	}{
		{nil, 0, 0}, {[]int{0}, 0, 0}, {[]int{1}, 1, 0}, {[]int{3}, 3, 0}, {[]int{4}, 0, 0}, {[]int{7, 5}, 3, 5}, {[]int{0, 6}, 0, 0}, {[]int{2, 3, 9, 9}, 2, 3},
		{[]int{-1, -1}, 3, 5}, {[]int{-4, -6}, 0, 0}, {[]int{-5, -11}, 3, 1}, {[]int{math.MaxInt, math.MaxInt}, 3, 1}, {[]int{math.MinInt, math.MinInt}, 0, 4},
	} {
		d := abc(t)
		before, picks := held(d), slices.Clone(c.picks)
		k := d.Crash(c.picks)
		want := fmt.Sprintf(`"a"="fast%s",0 "b"="%s",0 "c"="whole",0 "d"="",0 `, "loo"[:c.a], "loose"[:c.b])
		isHeld(t, fmt.Sprint("Crash of ", c.picks), k, want)
		isHeld(t, fmt.Sprint("Crash of the crashed, by ", c.picks), k.Crash([]int{1, 1, 1}), want)
		isHeld(t, "d itself", d, before)
		if d.Ops() != 7 || k.Ops() != 0 || !slices.Equal(c.picks, picks) {
			t.Errorf("Crash of %d: %d ops, %d ops, %d", picks, d.Ops(), k.Ops(), c.picks)
		}
	}
}

func TestCrashed(t *testing.T) { // P5.3: a new disk, never cut, with the room of the old one less what stayed
	d := made(t, 10)
	d.Append("a", []byte("1234"))
	d.Append("b", []byte("5678"))
	d.Sync("b")
	d.Cut(0)
	k := d.Crash([]int{2})
	isCode(t, "one more than its room", k.Append("c", make([]byte, 5)), api.ErrFull)
	isCode(t, "its room", k.Append("c", make([]byte, 4)), api.OK)
	isCode(t, "the old one", d.Append("c", nil), api.ErrOff)
	if k.Ops() != 2 || d.Ops() != 4 {
		t.Errorf("%d ops, %d ops", k.Ops(), d.Ops())
	}
	isHeld(t, "the crashed, crashed", k.Crash(nil), `"a"="12",0 "b"="5678",0 "c"="",0 `)
}

func TestCopy(t *testing.T) { // P5.3
	d := abc(t)
	d.Cut(2)
	k := d.Copy()
	isHeld(t, "copied", k, held(d))
	isHeld(t, "copied, crashed", k.Crash([]int{2, 1}), held(d.Crash([]int{2, 1})))
	if k.Ops() != d.Ops() {
		t.Errorf("%d ops, not %d", k.Ops(), d.Ops())
	}
	before := held(d)
	isCode(t, "its room, one more", k.Append("a", make([]byte, 100-17+1)), api.ErrFull)
	isCode(t, "its room", k.Append("a", make([]byte, 100-17)), api.OK)
	isCode(t, "as cut", k.Append("a", nil), api.ErrOff)
	isHeld(t, "the other", d, before)
	isCode(t, "the other", d.Remove("a"), api.OK)
	isCode(t, "the other", d.Remove("b"), api.OK)
	isCode(t, "the other, as cut", d.Remove("c"), api.ErrOff)
	if d.Ops() != 10 || k.Ops() != 10 || len(k.Names()) != 4 || len(d.Names()) != 2 {
		t.Errorf("%d ops, %d ops, %q, %q", d.Ops(), k.Ops(), d.Names(), k.Names())
	}
}

func TestCopyShares(t *testing.T) { // P5.3, P5.5: neither writes into the other's spare room
	d := made(t, 100)
	d.Append("a", []byte("12345"))
	d.Append("a", []byte("6"))
	k := d.Copy()
	c := d.Crash([]int{6})
	d.Append("a", []byte("d"))
	k.Append("a", []byte("k"))
	c.Append("a", []byte("c"))
	isHeld(t, "d", d, `"a"="123456d",0 `)
	isHeld(t, "k", k, `"a"="123456k",0 `)
	isHeld(t, "c", c, `"a"="123456c",0 `)
	k.Append("new", nil)
	k.Remove("a")
	isHeld(t, "d", d, `"a"="123456d",0 `)
}

func TestNone(t *testing.T) { // P5.4
	var d *Disk
	isCode(t, "Append", d.Append("a", nil), api.ErrFull)
	isCode(t, "Sync", d.Sync("a"), api.ErrNone)
	isCode(t, "Rename", d.Rename("a", "b"), api.ErrNone)
	isCode(t, "Remove", d.Remove("a"), api.ErrNone)
	if b, e := d.Read("a"); b != nil || e != api.ErrNone {
		t.Errorf("Read: %q, %d", b, e)
	}
	d.Cut(0)
	if d.Ops() != 0 || len(d.Names()) != 0 {
		t.Errorf("%d ops, %q", d.Ops(), d.Names())
	}
	isCode(t, "a copy is as d", d.Copy().Append("a", nil), api.ErrFull)
	for what, k := range map[string]*Disk{"Copy": d.Copy(), "Crash": d.Crash([]int{1})} {
		isHeld(t, what, k, "")
		isCode(t, what, k.Append("a", []byte("x")), api.ErrFull)
	}
}

func TestZero(t *testing.T) { // P5.4
	for _, d := range []*Disk{{}, made(t, 0), new(Disk).Copy(), new(Disk).Crash(nil)} {
		isHeld(t, "zero", d, "")
		isCode(t, "Append of a byte", d.Append("a", []byte("x")), api.ErrFull)
		isCode(t, "Sync", d.Sync("a"), api.ErrNone)
		isCode(t, "Rename", d.Rename("a", "b"), api.ErrNone)
		isCode(t, "Remove", d.Remove("a"), api.ErrNone)
		isHeld(t, "zero", d, "")
		isCode(t, "Append of none", d.Append("a", nil), api.OK)
		isCode(t, "Rename", d.Rename("a", "b"), api.OK)
		isHeld(t, "zero, crashed", d.Crash([]int{1}), `"b"="",0 `)
		if d.Ops() != 6 {
			t.Errorf("%d ops", d.Ops())
		}
		d.Cut(0)
		isCode(t, "cut", d.Append("c", nil), api.ErrOff)
	}
}

func TestNewMemory(t *testing.T) { // P5.5
	d := made(t, 100)
	b := append(make([]byte, 0, 20), "12345"...)
	d.Append("a", b)
	d.Append("a", []byte("6"))
	if !bytes.Equal(b[:6], []byte("12345\x00")) {
		t.Errorf("handed in: %q", b[:6])
	}
	b[0] = 'X'
	r, _ := d.Read("a")
	s, _ := d.Read("a")
	r[1] = 'X'
	_ = append(r, "over"...)
	names := d.Names()
	names[0] = "X"
	d.Append("a", []byte("7"))
	isHeld(t, "d", d, `"a"="1234567",0 `)
	if string(s) != "123456" {
		t.Errorf("read: %q", s)
	}
}

// plain is a disk as the chapter's words say it: two texts a file, nothing counted ahead.
type plain struct {
	synced, loose map[string]string
}

func (p plain) append(name, b string, room int) api.Errno {
	all, files := len(b), len(p.synced)
	for n := range p.synced {
		all += len(p.synced[n]) + len(p.loose[n])
	}
	if _, there := p.synced[name]; !there {
		files++
	}
	if name == "" {
		return api.ErrArg
	}
	if all > room || files > api.MaxFiles {
		return api.ErrFull
	}
	p.synced[name] += ""
	p.loose[name] += b
	return api.OK
}

func (p plain) rename(from, to string) api.Errno {
	s, there := p.synced[from]
	if !there {
		return api.ErrNone
	}
	if to == "" {
		return api.ErrArg
	}
	l := p.loose[from]
	p.remove(from)
	p.synced[to], p.loose[to] = s, l
	return api.OK
}

func (p plain) remove(name string) api.Errno {
	if _, there := p.synced[name]; !there {
		return api.ErrNone
	}
	delete(p.synced, name)
	delete(p.loose, name)
	return api.OK
}

func (p plain) sync(name string) api.Errno {
	s, there := p.synced[name]
	if !there {
		return api.ErrNone
	}
	p.synced[name], p.loose[name] = s+p.loose[name], ""
	return api.OK
}

// crash is what picks leave, all of it synced.
func (p plain) crash(picks []int) plain {
	out := plain{map[string]string{}, map[string]string{}}
	var names []string
	for n := range p.synced {
		names = append(names, n)
	}
	slices.Sort(names)
	for _, n := range names {
		l, k := p.loose[n], 0
		if l != "" && len(picks) > 0 {
			for k = picks[0]; k < 0; k += len(l) + 1 {
			}
			for ; k > len(l); k -= len(l) + 1 {
			}
			picks = picks[1:]
		}
		out.synced[n], out.loose[n] = p.synced[n]+l[:k], ""
	}
	return out
}

func (p plain) held() string {
	var names []string
	for n := range p.synced {
		names = append(names, n)
	}
	slices.Sort(names)
	out := ""
	for _, n := range names {
		out += fmt.Sprintf("%q=%q,0 ", n, p.synced[n]+p.loose[n])
	}
	return out
}

func TestLong(t *testing.T) { // P5.1 to P5.5: a long row of ops, held against the chapter's words
	seed := uint32(1)
	next := func(n int) int {
		seed = seed*1664525 + 1013904223
		return int(seed>>16) % n
	}
	names := []string{"", "a", "b", "c", "d"}
	d, p := made(t, 40), plain{map[string]string{}, map[string]string{}}
	for i := range 20000 {
		name, to := names[next(len(names))], names[next(len(names))]
		var got, want api.Errno
		switch op := next(12); {
		case op < 6:
			b := "0123456789"[:next(11)]
			got, want = d.Append(name, []byte(b)), p.append(name, b, 40)
		case op < 8:
			got, want = d.Sync(name), p.sync(name)
		case op < 10:
			got, want = d.Rename(name, to), p.rename(name, to)
		case op < 11:
			got, want = d.Remove(name), p.remove(name)
		default:
			picks := []int{next(30) - 15, next(30) - 15, next(30) - 15}[:next(4)]
			d, p = d.Crash(picks), p.crash(picks)
		}
		if got != want || held(d) != p.held() {
			t.Fatalf("op %d: %d, not %d; %s, not %s", i, got, want, held(d), p.held())
		}
		if i%3 == 0 {
			d = d.Copy()
		}
	}
}

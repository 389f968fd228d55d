package clock

import (
	"fmt"
	"math"
	"testing"

	"penstock/api"
	"penstock/stamp"
)

func st(wall, logic, node int) api.Stamp {
	return api.Stamp{Wall: wall, Logic: logic, Node: node}
}

// made is a clock of node 2.
func made(t *testing.T, floor, reading int) *Clock {
	t.Helper()
	c, e := New(2, floor)
	if c == nil || e != api.OK {
		t.Fatalf("New(2, %d): %v, %d", floor, c, e)
	}
	c.Read(reading)
	return c
}

// stands asks what a clock says of itself.
func stands(t *testing.T, what string, c *Clock, now api.Stamp, reading int) {
	t.Helper()
	if c.Now() != now || c.Reading() != reading {
		t.Errorf("%s: it stands at %v, reading %d; not %v, %d", what, c.Now(), c.Reading(), now, reading)
	}
}

// tells asks for a stamp, or for why there is none.
func tells(t *testing.T, what string, c *Clock, want api.Stamp, code api.Errno) {
	t.Helper()
	if s, e := c.Tick(); s != want || e != code {
		t.Errorf("%s: Tick: %v, %d; not %v, %d", what, s, e, want, code)
	}
}

func takes(t *testing.T, what string, c *Clock, s api.Stamp, code api.Errno) {
	t.Helper()
	if e := c.Merge(s); e != code {
		t.Errorf("%s: Merge(%v): %d, not %d", what, s, e, code)
	}
}

func TestNew(t *testing.T) { // P8.1: which nodes and floors may be
	for _, x := range []struct {
		node, floor int
		code        api.Errno
	}{
		{1, 0, 0}, {5, 0, 0}, {1, 1, 0}, {3, api.MaxWall, 0}, {5, api.MaxWall, 0}, {2, 1 << 32, 0},
		{0, 0, api.ErrArg}, {-1, 0, api.ErrArg}, {6, 0, api.ErrArg}, {math.MaxInt, 0, api.ErrArg}, {math.MinInt, 0, api.ErrArg},
		{1, -1, api.ErrArg}, {5, api.MaxWall + 1, api.ErrArg}, {1, math.MaxInt, api.ErrArg}, {1, math.MinInt, api.ErrArg},
		{0, -1, api.ErrArg}, {6, api.MaxWall + 1, api.ErrArg},
	} {
		what := fmt.Sprintf("New(%d, %d)", x.node, x.floor)
		c, e := New(x.node, x.floor)
		if e != x.code || (c == nil) != (e != api.OK) {
			t.Errorf("%s: %v, %d", what, c, e)
		}
		if c != nil {
			stands(t, what, c, st(x.floor, 0, x.node), 0)
			tells(t, what, c, st(x.floor, 1, x.node), api.OK)
		}
	}
}

func TestRead(t *testing.T) { // P8.1: a reading is taken if it is 0 to MaxWall, and above the one before
	c := made(t, 7, 0)
	for _, x := range [][2]int{
		{0, 0}, {-1, 0}, {math.MinInt, 0}, {1, 1}, {0, 1}, {-1, 1}, {1, 1}, {5, 5}, {4, 5}, {5, 5}, {6, 6},
		{api.MaxWall + 1, 6}, {math.MaxInt, 6}, {1 << 40, 1 << 40}, {7, 1 << 40},
		{api.MaxWall - 1, api.MaxWall - 1}, {api.MaxWall + 1, api.MaxWall - 1}, {api.MaxWall, api.MaxWall}, {math.MaxInt, api.MaxWall}, {0, api.MaxWall},
	} {
		c.Read(x[0])
		stands(t, fmt.Sprintf("Read(%d)", x[0]), c, st(7, 0, 2), x[1]) // what it told last stays
	}
}

func TestTick(t *testing.T) { // P8.2: {reading, 0} if the reading is above Wall, else {Wall, Logic + 1}
	c := made(t, 10, 0)
	for _, x := range []struct {
		reading int
		want    api.Stamp
	}{
		{0, st(10, 1, 2)}, {9, st(10, 2, 2)}, {10, st(10, 3, 2)}, {11, st(11, 0, 2)}, {11, st(11, 1, 2)}, {3, st(11, 2, 2)},
		{12, st(12, 0, 2)}, {5000, st(5000, 0, 2)}, {5000, st(5000, 1, 2)}, {-1, st(5000, 2, 2)}, {api.MaxWall + 1, st(5000, 3, 2)},
		{api.MaxWall, st(api.MaxWall, 0, 2)}, {api.MaxWall, st(api.MaxWall, 1, 2)},
	} {
		c.Read(x.reading)
		what := fmt.Sprintf("reading %d", x.reading)
		tells(t, what, c, x.want, api.OK)
		stands(t, what, c, x.want, c.Reading())
	}
}

func TestTickNode(t *testing.T) { // P8.2: with its node
	for node := 1; node <= api.MaxNodes; node++ {
		c, _ := New(node, 0)
		tells(t, "at its floor", c, st(0, 1, node), api.OK)
		takes(t, "of another one", c, st(0, 7, node%api.MaxNodes+1), api.OK)
		stands(t, "behind that", c, st(0, 7, node), 0)
		tells(t, "behind that", c, st(0, 8, node), api.OK)
		c.Read(3)
		tells(t, "by its reading", c, st(3, 0, node), api.OK)
	}
}

func TestTickOver(t *testing.T) { // P8.2: ErrOver, if it would tell a Logic of MaxLogic
	c := made(t, 4, 0)
	for n := 1; n < api.MaxLogic; n++ {
		if s, e := c.Tick(); s != st(4, n, 2) || e != api.OK {
			t.Fatalf("Tick %d: %v, %d", n, s, e)
		}
	}
	for range 3 {
		tells(t, "run over", c, api.Stamp{}, api.ErrOver)
		stands(t, "run over", c, st(4, 65535, 2), 0)
	}
	c.Read(4)
	tells(t, "a reading that is not above", c, api.Stamp{}, api.ErrOver)
	stands(t, "a reading that is not above", c, st(4, 65535, 2), 4)
	c.Read(5)
	tells(t, "a greater reading", c, st(5, 0, 2), api.OK)
	takes(t, "the next but the last counter", c, st(5, 65534, 1), api.OK)
	tells(t, "the last counter", c, st(5, 65535, 2), api.OK)
	tells(t, "one more", c, api.Stamp{}, api.ErrOver)
	takes(t, "the next wall", c, st(6, 0, 1), api.OK)
	tells(t, "the next wall", c, st(6, 1, 2), api.OK)
}

func TestTickLastWall(t *testing.T) { // P8.2: no Wall above MaxWall
	c := made(t, api.MaxWall, api.MaxWall)
	takes(t, "the last wall", c, st(api.MaxWall, 65534, 5), api.OK)
	c.Read(api.MaxWall + 1)
	tells(t, "the last stamp", c, st(api.MaxWall, 65535, 2), api.OK)
	tells(t, "one more", c, api.Stamp{}, api.ErrOver)
	takes(t, "the greatest stamp", c, st(api.MaxWall, 65535, 5), api.OK)
	tells(t, "one more", c, api.Stamp{}, api.ErrOver)
	stands(t, "one more", c, st(api.MaxWall, 65535, 2), api.MaxWall)
}

func TestMergeWrong(t *testing.T) { // P8.2: ErrArg, if not Sound; P8.5: it changes nothing
	c := made(t, 4, 3)
	for _, s := range []api.Stamp{
		st(-1, 0, 0), st(api.MaxWall+1, 0, 0), st(math.MinInt, 0, 0), st(math.MaxInt, 0, 0),
		st(4, -1, 0), st(4, 65536, 0), st(4, math.MinInt, 0), st(4, math.MaxInt, 0),
		st(5, 0, -1), st(5, 0, 6), st(5, 0, math.MinInt), st(5, 0, math.MaxInt),
		st(9999, 0, 6), st(9999, 65536, 0), // not sound is told ahead of too far ahead
	} {
		takes(t, "not sound", c, s, api.ErrArg)
		stands(t, "not sound", c, st(4, 0, 2), 3)
	}
	tells(t, "behind them", c, st(4, 1, 2), api.OK)
}

func TestMergeDrift(t *testing.T) { // P8.2: too far ahead is what is above both the reading + MaxDrift and Wall
	for _, x := range []struct {
		floor, reading int
		s              api.Stamp
		code           api.Errno
	}{
		{0, 0, st(1000, 0, 1), 0}, {0, 0, st(1000, 65535, 5), 0}, {0, 0, st(1001, 0, 0), api.ErrDrift}, {0, 0, st(1001, 9, 1), api.ErrDrift},
		{0, 5, st(1005, 0, 1), 0}, {0, 5, st(1006, 0, 1), api.ErrDrift},
		{1000, 0, st(1000, 0, 1), 0}, {1000, 0, st(1001, 0, 1), api.ErrDrift},
		{1001, 0, st(1001, 4, 1), 0}, {1001, 0, st(1002, 0, 1), api.ErrDrift}, {1001, 1, st(1001, 4, 1), 0}, {1001, 2, st(1002, 0, 1), 0},
		{5000, 0, st(5000, 9, 0), 0}, {5000, 0, st(4999, 9, 0), 0}, {5000, 0, st(1001, 0, 0), 0}, {5000, 0, st(5001, 0, 0), api.ErrDrift},
		{5000, 3999, st(5000, 1, 1), 0}, {5000, 4000, st(5000, 1, 1), 0}, {5000, 4000, st(5001, 0, 1), api.ErrDrift}, {5000, 4001, st(5001, 0, 1), 0},
		{0, 5000, st(6000, 0, 1), 0}, {0, 5000, st(6001, 0, 1), api.ErrDrift}, {5500, 5000, st(6000, 0, 1), 0}, {5500, 5000, st(6001, 0, 1), api.ErrDrift},
		{0, 0, st(api.MaxWall, 0, 0), api.ErrDrift}, {0, 0, st(api.MaxWall, 65535, 5), api.ErrDrift}, {api.MaxWall, 0, st(api.MaxWall, 3, 1), 0},
		{0, api.MaxWall - 1000, st(api.MaxWall, 0, 1), 0}, {0, api.MaxWall - 1001, st(api.MaxWall, 0, 1), api.ErrDrift}, {0, api.MaxWall, st(api.MaxWall, 0, 1), 0},
	} {
		c := made(t, x.floor, x.reading)
		what := fmt.Sprintf("floor %d, reading %d, %v", x.floor, x.reading, x.s)
		takes(t, what, c, x.s, x.code)
		want := st(x.floor, 0, 2)
		if x.code == api.OK && x.s.Wall >= x.floor {
			want = st(x.s.Wall, x.s.Logic, 2)
		}
		stands(t, what, c, want, x.reading)
	}
}

func TestMerge(t *testing.T) { // P8.2: taken in, if what it told last is less, by both numbers
	c := made(t, 4, 3)
	for _, x := range []struct{ s, want api.Stamp }{
		{st(4, 0, 5), st(4, 0, 2)}, // its node tells nothing
		{st(4, 1, 1), st(4, 1, 2)},
		{st(4, 0, 5), st(4, 1, 2)},
		{st(4, 1, 0), st(4, 1, 2)},
		{st(4, 1, 5), st(4, 1, 2)},
		{st(3, 65535, 5), st(4, 1, 2)},
		{st(0, 0, 0), st(4, 1, 2)},
		{st(4, 9, 2), st(4, 9, 2)},
		{st(5, 0, 0), st(5, 0, 2)},
		{st(5, 10, 1), st(5, 10, 2)},
		{st(4, 11, 1), st(5, 10, 2)},
		{st(900, 2, 3), st(900, 2, 2)},
		{st(901, 1, 3), st(901, 1, 2)},
		{st(901, 65535, 4), st(901, 65535, 2)},
		{st(902, 0, 1), st(902, 0, 2)},
	} {
		takes(t, "in turn", c, x.s, api.OK)
		stands(t, fmt.Sprint("behind ", x.s), c, x.want, 3) // the reading is its own
	}
	c.Read(902)
	tells(t, "a reading that is not above", c, st(902, 1, 2), api.OK)
	takes(t, "below the reading", c, st(902, 7, 1), api.OK)
	c.Read(1500)
	takes(t, "above what was told, below the reading", c, st(1200, 7, 1), api.OK)
	stands(t, "above what was told, below the reading", c, st(1200, 7, 2), 1500)
	tells(t, "behind it", c, st(1500, 0, 2), api.OK)
}

func TestMergeDriftAfterMerge(t *testing.T) { // P8.2: the reading bounds it, not what was taken in
	c := made(t, 0, 5)
	takes(t, "the farthest", c, st(1005, 0, 1), api.OK)
	takes(t, "one more", c, st(1006, 0, 1), api.ErrDrift)
	takes(t, "the farthest, counted on", c, st(1005, 4, 1), api.OK)
	tells(t, "the farthest, counted on", c, st(1005, 5, 2), api.OK)
	c.Read(6)
	takes(t, "one more", c, st(1006, 0, 1), api.OK)
	takes(t, "two more", c, st(1007, 0, 1), api.ErrDrift)
	stands(t, "two more", c, st(1006, 0, 2), 6)
}

func TestNow(t *testing.T) { // P8.3: asking changes nothing
	c := made(t, 4, 9)
	for range 3 {
		stands(t, "made", c, st(4, 0, 2), 9)
	}
	tells(t, "asked", c, st(9, 0, 2), api.OK)
	for range 3 {
		stands(t, "told", c, st(9, 0, 2), 9)
	}
	tells(t, "asked", c, st(9, 1, 2), api.OK)
}

func TestNilAndZero(t *testing.T) { // P8.4
	for what, c := range map[string]*Clock{"nil": nil, "zero": {}} {
		for range 2 {
			c.Read(5)
			c.Read(api.MaxWall)
			tells(t, what, c, api.Stamp{}, api.ErrArg)
			takes(t, what, c, st(1, 1, 1), api.ErrArg)
			takes(t, what, c, api.Stamp{}, api.ErrArg)
			takes(t, what, c, st(9999, 1, 1), api.ErrArg)
			takes(t, what, c, st(-1, 1, 1), api.ErrArg)
			stands(t, what, c, api.Stamp{}, 0)
		}
	}
}

func TestApart(t *testing.T) { // rule 7: clocks have nothing in common
	a, b := made(t, 4, 0), made(t, 4, 0)
	a.Read(9)
	tells(t, "the one", a, st(9, 0, 2), api.OK)
	takes(t, "the one", a, st(20, 3, 1), api.OK)
	stands(t, "the other", b, st(4, 0, 2), 0)
	tells(t, "the other", b, st(4, 1, 2), api.OK)
	stands(t, "the one", a, st(20, 3, 2), 9)
}

func TestExample(t *testing.T) { // the chapter's example
	c := made(t, 0, 5)
	tells(t, "first", c, st(5, 0, 2), api.OK)
	tells(t, "second", c, st(5, 1, 2), api.OK)
	takes(t, "third", c, st(9, 3, 1), api.OK)
	tells(t, "third", c, st(9, 4, 2), api.OK)
}

// plain is a clock by the chapter's words alone.
type plain struct{ node, reading, wall, logic int }

func (p *plain) read(n int) {
	if n >= 0 && n <= api.MaxWall && n > p.reading {
		p.reading = n
	}
}

func (p *plain) tick() (api.Stamp, api.Errno) {
	wall, logic := p.wall, p.logic+1
	if p.reading > p.wall {
		wall, logic = p.reading, 0
	}
	if logic == api.MaxLogic || wall > api.MaxWall {
		return api.Stamp{}, api.ErrOver
	}
	p.wall, p.logic = wall, logic
	return st(wall, logic, p.node), api.OK
}

func (p *plain) merge(s api.Stamp) api.Errno {
	if !stamp.Sound(s) {
		return api.ErrArg
	}
	if s.Wall > p.reading+api.MaxDrift && s.Wall > p.wall {
		return api.ErrDrift
	}
	if p.wall < s.Wall || p.wall == s.Wall && p.logic < s.Logic {
		p.wall, p.logic = s.Wall, s.Logic
	}
	return api.OK
}

// row is numbers that look random, the same ones at each run.
func row(seed uint32) func(n int) int {
	return func(n int) int {
		seed = seed*1664525 + 1013904223
		return int(seed>>8) % n
	}
}

func TestLong(t *testing.T) { // P8.1 to P8.3 against the plain one; P8.5: each Tick is greater than all ahead of it
	for seed := range uint32(40) {
		next := row(seed)
		node, floor := 1+next(api.MaxNodes), next(2)*next(3000)
		if seed%8 == 7 {
			floor = api.MaxWall - next(3000)
		}
		c, _ := New(node, floor)
		p := &plain{node: node, wall: floor}
		top := api.Stamp{Wall: -1} // the greatest that it told or took in
		for step := range 1500 {
			what := fmt.Sprintf("seed %d, step %d", seed, step)
			now, reading := c.Now(), c.Reading()
			base := max(reading, now.Wall)
			e := api.OK
			switch next(8) {
			case 0, 1:
				n := base + next(40) - 20
				if next(50) == 0 {
					n = api.MaxWall + next(3) - 1
				}
				c.Read(n)
				p.read(n)
			case 2, 3, 4:
				var s, want api.Stamp
				var code api.Errno
				s, e = c.Tick()
				want, code = p.tick()
				if s != want || e != code {
					t.Fatalf("%s: Tick: %v, %d; not %v, %d", what, s, e, want, code)
				}
				if e == api.OK {
					if !stamp.Less(top, s) || !stamp.Sound(s) {
						t.Fatalf("%s: %v, behind %v", what, s, top)
					}
					top = s
				}
			default:
				s := st(base+next(20)-10, next(6)-1, next(8)-1)
				switch next(6) {
				case 0:
					s.Wall = reading + api.MaxDrift + next(5) - 2
				case 1:
					s.Wall = now.Wall
					s.Logic = []int{now.Logic - 1, now.Logic, now.Logic + 1, 65533, 65534, 65535, 65536}[next(7)]
				}
				e = c.Merge(s)
				if code := p.merge(s); e != code {
					t.Fatalf("%s: Merge(%v): %d, not %d", what, s, e, code)
				}
				if e == api.OK {
					top = stamp.Max(top, s)
				}
			}
			if e != api.OK && (c.Now() != now || c.Reading() != reading) {
				t.Fatalf("%s: refused, it stands at %v, %d; not %v, %d", what, c.Now(), c.Reading(), now, reading)
			}
			if c.Now() != st(p.wall, p.logic, node) || c.Reading() != p.reading {
				t.Fatalf("%s: it stands at %v, %d; not %v", what, c.Now(), c.Reading(), *p)
			}
		}
	}
}

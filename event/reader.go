package event

import (
	"math"

	"penstock/api"
	"penstock/bits"
	"penstock/stamp"
)

// reader takes one thing after the other off the head of bytes. What it answers is for nothing, once it has met bad ones.
type reader struct {
	rest []byte
	bad  bool
}

// decode reads what b begins with, if it may be.
func decode[T any](b []byte, read func(*reader) T, may func(T) bool) (x T, n int, e api.Errno) {
	r := &reader{rest: b}
	x = read(r)
	if r.bad || !may(x) {
		var none T
		return none, 0, api.ErrBad
	}
	return x, len(b) - len(r.rest), api.OK
}

// list reads how many there are, at most so many, and each of them.
func list[T any](r *reader, most uint64, item func(*reader) T) []T {
	many := r.number()
	if many > most {
		r.fail()
		return nil
	}
	var l []T
	for range many {
		l = append(l, item(r))
		if r.bad { // many may be far more than there are bytes
			return nil
		}
	}
	return l
}

func (r *reader) batch() api.Batch {
	var b api.Batch
	b.Key = r.text()
	b.Puts = list(r, api.MaxPuts, (*reader).put)
	return b
}

func (r *reader) put() api.Put {
	var p api.Put
	p.Stream = r.text()
	p.Expect = bits.Zag(r.number())
	p.Data = list(r, api.MaxEvents, (*reader).text)
	return p
}

func (r *reader) event() api.Event {
	var e api.Event
	e.Stream = r.text()
	e.Version = r.whole()
	e.Data = r.text()
	e.Stamp = r.stamp()
	e.Index = r.whole()
	return e
}

func (r *reader) stream() api.Stream {
	var s api.Stream
	s.Name = r.text()
	s.Events = list(r, math.MaxUint64, (*reader).event)
	s.Keys = list(r, math.MaxUint64, (*reader).known)
	return s
}

func (r *reader) known() api.Known {
	var k api.Known
	k.Key = r.text()
	k.First = r.whole()
	k.Stamp = r.stamp()
	return k
}

func (r *reader) text() string {
	s, n := bits.Take(r.rest)
	r.step(n)
	return s
}

func (r *reader) stamp() api.Stamp {
	s, n, _ := stamp.Decode(r.rest)
	r.step(n)
	return s
}

// whole is a version or an index: what is more than an int holds turns out below 0, which is neither.
func (r *reader) whole() int {
	return int(r.number())
}

func (r *reader) number() uint64 {
	v, n := bits.Unvarint(r.rest)
	r.step(n)
	return v
}

// step goes behind what was read; 0 bytes: there was none.
func (r *reader) step(n int) {
	if n == 0 {
		r.fail()
		return
	}
	r.rest = r.rest[n:]
}

// fail leaves nothing to be read.
func (r *reader) fail() {
	r.rest, r.bad = nil, true
}

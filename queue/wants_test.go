package queue_test

import (
	"bytes"
	"math"
	"slices"
	"testing"

	"hatchway/api"
	"hatchway/queue"
)

const (
	first api.MapKind = 5 // of which the eldest is the next one
	last  api.MapKind = 6 // of which the youngest is
)

// eachKind calls a test of both kinds.
func eachKind(t *testing.T, test func(t *testing.T, kind api.MapKind)) {
	t.Helper()
	t.Run("MapQueue", func(t *testing.T) { test(t, first) })
	t.Run("MapStack", func(t *testing.T) { test(t, last) })
}

// specOf is a queue's make, right if its parts are.
func specOf(kind api.MapKind, value, entries int) api.MapSpec {
	return api.MapSpec{Kind: kind, Value: value, Entries: entries}
}

// wantNew tells by the chapters' tables what New answers.
func wantNew(s api.MapSpec) api.Errno {
	const most = 1024
	type row struct{ keyLo, keyHi, valueLo, valueHi, entriesLo, entriesHi int }
	table := []row{
		1: {4, 4, 1, most, 1, most},
		2: {1, 64, 1, most, 1, most},
		3: {1, 64, 1, most, 1, most},
		4: {5, 36, 1, most, 1, most},
		5: {0, 0, 1, most, 1, most},
		6: {0, 0, 1, most, 1, most},
		7: {0, 0, 0, 0, 16, 16384},
		8: {4, 4, 8, 8, 1, 64},
	}
	if s.Kind == 0 || int(s.Kind) >= len(table) {
		return api.ErrKind
	}
	r := table[s.Kind]
	switch {
	case s.Key < r.keyLo, s.Key > r.keyHi, s.Value < r.valueLo, s.Value > r.valueHi, s.Entries < r.entriesLo, s.Entries > r.entriesHi:
		return api.ErrArg
	case s.Kind != 5 && s.Kind != 6:
		return api.ErrKind
	}
	return api.OK
}

// both is a queue, and what it must have by the chapter's words: values, in no order, and at which turn each was pushed.
type both struct {
	t          *testing.T
	q          *queue.Queue
	kind       api.MapKind
	size, room int
	turn       int
	values     []pushed
}

type pushed struct {
	value []byte
	turn  int
}

func newBoth(t *testing.T, kind api.MapKind, value, entries int) *both {
	t.Helper()
	q, e := queue.New(specOf(kind, value, entries))
	if q == nil || e != api.OK {
		t.Fatalf("New(%d, %d, %d): %v, %v", kind, value, entries, q != nil, e)
	}
	return &both{t: t, q: q, kind: kind, size: value, room: entries}
}

// eldest tells where the value stands that was pushed longest ago.
func (x *both) eldest() int {
	found := 0
	for i, v := range x.values {
		if v.turn < x.values[found].turn {
			found = i
		}
	}
	return found
}

// youngest tells where the value stands that was pushed last.
func (x *both) youngest() int {
	found := 0
	for i, v := range x.values {
		if v.turn > x.values[found].turn {
			found = i
		}
	}
	return found
}

// next tells where the next one stands.
func (x *both) next() int {
	if x.kind == first {
		return x.eldest()
	}
	return x.youngest()
}

// drop takes a value out; the last one stands where it stood.
func (x *both) drop(at int) {
	end := len(x.values) - 1
	x.values[at] = x.values[end]
	x.values = x.values[:end]
}

// handed is a copy of b within other bytes, which tells whether it and they are as they were, and is written over behind the call.
type handed struct {
	all, was []byte
	size     int
}

func handOf(b []byte) *handed {
	all := slices.Concat([]byte("<<<<"), b, []byte(">>>>>>>>"))
	return &handed{all: all, was: bytes.Clone(all), size: len(b)}
}

func (h *handed) bytes() []byte {
	return h.all[4 : 4+h.size]
}

func (h *handed) back(t *testing.T) {
	t.Helper()
	if !bytes.Equal(h.all, h.was) {
		t.Fatalf("the %d bytes that were handed in, or those beside them, were changed", h.size)
	}
	overwrite(h.all)
}

// overwrite leaves nothing of b, nor of what its memory has behind it.
func overwrite(b []byte) {
	b = b[:cap(b)]
	for i := range b {
		b[i] ^= 0x5a
	}
}

// wantPush tells what a push answers.
func (x *both) wantPush(value []byte, flags uint64) api.Errno {
	switch {
	case len(value) != x.size, flags == 1, flags > 2:
		return api.ErrArg
	case len(x.values) >= x.room && flags == 0:
		return api.ErrFull
	}
	return api.OK
}

func (x *both) push(value []byte, flags uint64) api.Errno {
	x.t.Helper()
	want := x.wantPush(value, flags)
	if want == api.OK {
		if len(x.values) >= x.room {
			x.drop(x.eldest())
		}
		x.turn++
		x.values = append(x.values, pushed{value: bytes.Clone(value), turn: x.turn})
	}
	hand := handOf(value)
	e := x.q.Push(hand.bytes(), flags)
	if e != want {
		x.t.Fatalf("Push(%d bytes, %d), %d of %d being there: %v; want %v", len(value), flags, len(x.values), x.room, e, want)
	}
	hand.back(x.t)
	x.many()
	return e
}

// hold holds what Peek or Pop told against the next one, and writes over it.
func (x *both) hold(call string, told []byte, e api.Errno) {
	x.t.Helper()
	want, wanted := api.ErrNone, []byte(nil)
	if len(x.values) > 0 {
		want, wanted = api.OK, x.values[x.next()].value
	}
	if e != want || !bytes.Equal(told, wanted) || e != api.OK && told != nil {
		x.t.Fatalf("%s, %d of %d being there: %v, %v; want %v, %v", call, len(x.values), x.room, told, e, wanted, want)
	}
	overwrite(told)
}

func (x *both) peek() api.Errno {
	x.t.Helper()
	told, e := x.q.Peek()
	x.hold("Peek", told, e)
	x.many()
	return e
}

func (x *both) pop() api.Errno {
	x.t.Helper()
	told, e := x.q.Pop()
	x.hold("Pop", told, e)
	if len(x.values) > 0 {
		x.drop(x.next())
	}
	x.many()
	return e
}

func (x *both) many() {
	x.t.Helper()
	if n := x.q.Many(); n != len(x.values) {
		x.t.Fatalf("Many: %d; want %d", n, len(x.values))
	}
}

// look asks for what can be asked for while all stays, and twice.
func (x *both) look() {
	x.t.Helper()
	x.peek()
	x.peek()
}

// drain pops all values, and once more.
func (x *both) drain() {
	x.t.Helper()
	for range len(x.values) {
		x.peek()
		x.pop()
	}
	x.look()
	if e := x.pop(); e != api.ErrNone {
		x.t.Fatalf("Pop of none: %v", e)
	}
	x.look()
}

// all looks at all values: pops them, and pushes them again, in the order in which they were pushed.
func (x *both) all() {
	x.t.Helper()
	was := slices.Clone(x.values)
	slices.SortFunc(was, func(a, b pushed) int { return a.turn - b.turn })
	x.drain()
	for i, v := range was {
		if e := x.push(v.value, uint64(i%2)*2); e != api.OK {
			x.t.Fatalf("Push of the value %d of %d again: %v", i, len(was), e)
		}
	}
	x.look()
}

// fill pushes so many values, from the one of a number on.
func (x *both) fill(from, many int) {
	x.t.Helper()
	for n := from; n < from+many; n++ {
		if e := x.push(valueOf(x.size, n), uint64(n%2)*2); e != api.OK {
			x.t.Fatalf("value %d: %v", n, e)
		}
	}
}

// valueOf tells bytes that hang on a number, those at both ends alone, too. (Of one byte there are 256 values.)
func valueOf(size, n int) []byte {
	b := make([]byte, size)
	for i := range b {
		b[i] = byte(i*7 + n*31 + n/256 + 1)
	}
	return b
}

// row is so many bytes, no two of 251 alike, none of them 0.
func row(size int) []byte {
	b := make([]byte, size)
	for i := range b {
		b[i] = byte(i%251 + 1)
	}
	return b
}

// flags are the two that there are, and others.
func flags() []uint64 {
	all := []uint64{0, 1, 2, 3, 4, 5, 6, 7, 8, 10, 16, 18, 32, 34, 127, 128, 129, 130, 255, 256, 257, 258, 1 << 15, 1<<15 + 2, 1 << 16, 1<<16 + 2, 1<<31 - 1, 1 << 31, 1<<31 + 2, 1<<32 - 1, 1<<32 - 2, 1 << 32, 1<<32 + 1, 1<<32 + 2, 1<<63 - 1, 1<<63 - 2, 1 << 63, 1<<63 + 1, 1<<63 + 2, math.MaxUint64 - 2, math.MaxUint64 - 1, math.MaxUint64}
	for bit := range 64 {
		all = append(all, 1<<bit, 1<<bit|2)
	}
	return all
}

// lengths are numbers of bytes that a value of so many has not: none, one less, one more, and others.
func lengths(size int) []int {
	return slices.DeleteFunc([]int{0, 1, 2, size / 2, size - 2, size - 1, size + 1, size + 2, 2 * size, size + 8, size + 256, 1024, 1025, 1<<16 + size}, func(n int) bool { return n < 0 || n == size })
}

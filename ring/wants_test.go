package ring_test

import (
	"bytes"
	"slices"
	"testing"

	"hatchway/api"
	"hatchway/ring"
)

const (
	least     = 16    // bytes of a ring
	most      = 16384 // bytes of a ring
	head      = 8     // bytes that a record takes more than it has
	maxRecord = 65536
)

// specOf is a ring's make, right if its bytes are.
func specOf(entries int) api.MapSpec {
	return api.MapSpec{Kind: 7, Entries: entries}
}

// wantNew tells by the chapters' tables what New answers.
func wantNew(s api.MapSpec) api.Errno {
	type row struct{ keyLo, keyHi, valueLo, valueHi, entriesLo, entriesHi int }
	table := []row{
		1: {4, 4, 1, 1024, 1, 1024},
		2: {1, 64, 1, 1024, 1, 1024},
		3: {1, 64, 1, 1024, 1, 1024},
		4: {5, 36, 1, 1024, 1, 1024},
		5: {0, 0, 1, 1024, 1, 1024},
		6: {0, 0, 1, 1024, 1, 1024},
		7: {0, 0, 0, 0, least, most},
		8: {4, 4, 8, 8, 1, 64},
	}
	if s.Kind == 0 || int(s.Kind) >= len(table) {
		return api.ErrKind
	}
	r := table[s.Kind]
	switch {
	case s.Key < r.keyLo, s.Key > r.keyHi, s.Value < r.valueLo, s.Value > r.valueHi, s.Entries < r.entriesLo, s.Entries > r.entriesHi:
		return api.ErrArg
	case s.Kind != 7:
		return api.ErrKind
	}
	return api.OK
}

// both is a ring, and what it must have by the chapter's words: all that was ever put, and how many of these were taken.
type both struct {
	t     *testing.T
	r     *ring.Ring
	size  int
	put   [][]byte
	taken int
}

func newBoth(t *testing.T, entries int) *both {
	t.Helper()
	r, e := ring.New(specOf(entries))
	if r == nil || e != api.OK {
		t.Fatalf("New(%d): %v, %v", entries, r != nil, e)
	}
	x := &both{t: t, r: r, size: entries}
	x.look()
	return x
}

// there are the records that were put and not taken.
func (x *both) there() [][]byte {
	return x.put[x.taken:]
}

// room tells how many bytes must be left.
func (x *both) room() int {
	left := x.size
	for _, record := range x.there() {
		left -= head
		left -= len(record)
	}
	return left
}

// handed is a copy of b within other bytes, which tells whether it and they are as they were, and is written over behind the call.
type handed struct {
	all, was []byte
	size     int
}

func handOf(b []byte) *handed {
	all := slices.Concat([]byte("<<<<"), b, []byte(">>>>>>>>"))
	return &handed{all: all, was: bytes.Clone(all), size: len(b)}
}

func (h *handed) bytes() []byte {
	return h.all[4 : 4+h.size]
}

func (h *handed) back(t *testing.T) {
	t.Helper()
	if !bytes.Equal(h.all, h.was) {
		t.Fatalf("the %d bytes that were handed in, or those beside them, were changed", h.size)
	}
	overwrite(h.all)
}

// overwrite leaves nothing of b, nor of what its memory has behind it.
func overwrite(b []byte) {
	b = b[:cap(b)]
	for i := range b {
		b[i] ^= 0x5a
	}
}

// wantPut tells what a put answers.
func (x *both) wantPut(size int) api.Errno {
	switch {
	case size > maxRecord:
		return api.ErrLong
	case size+head > x.room():
		return api.ErrFull
	}
	return api.OK
}

// puts puts a record, and holds against what must be what is answered, and what is left.
func (x *both) puts(record []byte) api.Errno {
	x.t.Helper()
	want := x.wantPut(len(record))
	hand := handOf(record)
	e := x.r.Put(hand.bytes())
	if e != want {
		x.t.Fatalf("Put of %d bytes, %d of %d being left: %v; want %v", len(record), x.room(), x.size, e, want)
	}
	hand.back(x.t)
	if want == api.OK {
		x.put = append(x.put, bytes.Clone(record))
	}
	x.look()
	return e
}

// takes takes a record, holds it against the one that must be the first, and writes over it.
func (x *both) takes() api.Errno {
	x.t.Helper()
	told, e := x.r.Take()
	want, wanted := api.ErrNone, []byte(nil)
	if len(x.there()) > 0 {
		want, wanted = api.OK, x.there()[0]
		x.taken++
	}
	if e != want || !bytes.Equal(told, wanted) || e != api.OK && told != nil {
		x.t.Fatalf("Take of the record %d of %d: %v, %v; want %v, %v", x.taken, len(x.put), told, e, wanted, want)
	}
	overwrite(told)
	x.look()
	return e
}

// look asks how many bytes are left, twice.
func (x *both) look() {
	x.t.Helper()
	for range 2 {
		if n := x.r.Room(); n != x.room() {
			x.t.Fatalf("Room: %d of %d; want %d", n, x.size, x.room())
		}
	}
}

// drain takes all records, and once more.
func (x *both) drain() {
	x.t.Helper()
	for range len(x.there()) {
		x.takes()
	}
	for range 2 {
		if e := x.takes(); e != api.ErrNone {
			x.t.Fatalf("Take of none: %v", e)
		}
	}
	if n := x.r.Room(); n != x.size {
		x.t.Fatalf("Room of a ring without records: %d of %d", n, x.size)
	}
}

// all looks at all records: takes them, and puts them again, in the order in which they were put.
func (x *both) all() {
	x.t.Helper()
	was := slices.Clone(x.there())
	x.drain()
	x.fill(was...)
}

// fill puts records for which there is room.
func (x *both) fill(records ...[]byte) {
	x.t.Helper()
	for i, record := range records {
		if e := x.puts(record); e != api.OK {
			x.t.Fatalf("Put of the record %d of %d: %v", i, len(records), e)
		}
	}
}

// fillTo puts records until so many bytes are left, which may not be more than eight fewer than there are.
func (x *both) fillTo(left int) {
	x.t.Helper()
	for n := 0; x.room() > left; n++ {
		takes := min(head+n%50, x.room()-left)
		if rest := x.room() - left - takes; rest > 0 && rest < head {
			takes += rest
		}
		x.fill(recordOf(takes-head, n))
	}
}

// recordOf tells so many bytes that hang on a number.
func recordOf(size, n int) []byte {
	b := make([]byte, size)
	for i := range b {
		b[i] = byte(i*7 + n*31 + n/256 + 1)
	}
	return b
}

// recordsOf tells a record of each size, no two with bytes alike.
func recordsOf(sizes ...int) [][]byte {
	var records [][]byte
	for n, size := range sizes {
		records = append(records, recordOf(size, n))
	}
	return records
}

// sizes are bytes of rings: as few and as many as may be, one more and one less, and some between.
func sizes() []int {
	return []int{16, 17, 18, 20, 23, 24, 25, 31, 32, 33, 40, 63, 64, 65, 100, 127, 128, 255, 256, 257, 1000, 1023, 1024, 1025, 4096, 8191, 8192, 8193, 16383, 16384}
}

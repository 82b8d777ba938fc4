package ring_test

import (
	"bytes"
	"math"
	"testing"

	"hatchway/api"
	"hatchway/kinds"
	"hatchway/ring"
)

// The whole of what callers lean on.
var _ interface {
	Put(b []byte) api.Errno
	Take() ([]byte, api.Errno)
	Room() int
} = new(ring.Ring)

func checkPut(t *testing.T, r *ring.Ring, record string, want api.Errno, room int) {
	t.Helper()
	if e := r.Put([]byte(record)); e != want || r.Room() != room {
		t.Errorf("Put(%q): %v, %d left; want %v, %d", record, e, r.Room(), want, room)
	}
}

func checkTake(t *testing.T, r *ring.Ring, want string, room int) {
	t.Helper()
	if b, e := r.Take(); string(b) != want || e != api.OK || r.Room() != room {
		t.Errorf("Take: %q, %v, %d left; want %q, %d", b, e, r.Room(), want, room)
	}
}

// checkEmpty asks a ring without records.
func checkEmpty(t *testing.T, r *ring.Ring, room int) {
	t.Helper()
	for range 2 {
		if b, e := r.Take(); b != nil || e != api.ErrNone || r.Room() != room {
			t.Errorf("Take: %q, %v, %d left; want none, %d", b, e, r.Room(), room)
		}
	}
}

func checkNew(t *testing.T, s api.MapSpec) *ring.Ring {
	t.Helper()
	want := wantNew(s)
	r, e := ring.New(s)
	if e != want || (r != nil) != (want == api.OK) {
		t.Fatalf("New(%+v): %v, %v; want %v", s, r != nil, e, want)
	}
	if own := kinds.Spec(s); own != api.OK && e != own {
		t.Fatalf("New(%+v): %v; kinds tells %v", s, e, own)
	}
	return r
}

// Each Kind that a byte can be, with parts that are right for some of them, and such as are right for none.
func TestP15_1Kinds(t *testing.T) {
	made := 0
	for kind := range 256 {
		for _, key := range []int{-1, 0, 1, 4, 5, 36, 64, 1 << 32, 1<<32 + 4, math.MinInt64, math.MaxInt64} {
			for _, value := range []int{-1, 0, 1, 8, 1024, 1025, 1 << 32, 1<<32 + 1, math.MinInt64, math.MaxInt64} {
				for _, entries := range []int{-1, 0, 1, 15, 16, 64, 1024, 1025, 16384, 16385, 1<<32 + 16, math.MinInt64, math.MaxInt64} {
					if r := checkNew(t, api.MapSpec{Kind: api.MapKind(kind), Key: key, Value: value, Entries: entries}); r != nil {
						made++
						checkEmpty(t, r, entries)
					}
				}
			}
		}
	}
	if made != 5 {
		t.Errorf("%d rings were made", made)
	}
}

// Each number of bytes, also of keys and values, which there may not be.
func TestP15_1Parts(t *testing.T) {
	for n := -20; n <= most+20; n++ {
		if r := checkNew(t, specOf(n)); r != nil && r.Room() != n {
			t.Fatalf("Room: %d of %d", r.Room(), n)
		}
		for _, entries := range []int{least, most} {
			checkNew(t, api.MapSpec{Kind: 7, Key: n, Entries: entries})
			checkNew(t, api.MapSpec{Kind: 7, Value: n, Entries: entries})
			checkNew(t, api.MapSpec{Kind: 7, Key: n, Value: n, Entries: entries})
		}
	}
}

func TestP15_1FirstError(t *testing.T) {
	for _, x := range []struct {
		s api.MapSpec
		e api.Errno
	}{
		{api.MapSpec{}, 9}, {api.MapSpec{Entries: 16}, 9}, {api.MapSpec{Kind: 9}, 9}, {api.MapSpec{Kind: 9, Entries: 16}, 9}, {api.MapSpec{Kind: 255, Key: 1, Value: 1, Entries: 16}, 9},
		{api.MapSpec{Kind: 7}, 2}, {specOf(15), 2}, {specOf(-16), 2}, {specOf(16385), 2}, {specOf(math.MaxInt64), 2}, {specOf(math.MinInt64), 2}, {specOf(1<<32 + 16), 2}, {api.MapSpec{Kind: 7, Key: 1, Entries: 16}, 2}, {api.MapSpec{Kind: 7, Key: 4, Entries: 16}, 2}, {api.MapSpec{Kind: 7, Key: -1, Entries: 16}, 2}, {api.MapSpec{Kind: 7, Value: 1, Entries: 16}, 2}, {api.MapSpec{Kind: 7, Value: -1, Entries: 16}, 2}, {api.MapSpec{Kind: 7, Key: 4, Value: 8, Entries: 16}, 2},
		{api.MapSpec{Kind: 1}, 2}, {ofAnother(1), 2}, {ofAnother(2), 2}, {ofAnother(3), 2}, {ofAnother(4), 2}, {ofAnother(5), 2}, {ofAnother(6), 2}, {ofAnother(8), 2},
		{api.MapSpec{Kind: 1, Key: 4, Value: 1, Entries: 16}, 9}, {api.MapSpec{Kind: 2, Key: 5, Value: 1, Entries: 16}, 9}, {api.MapSpec{Kind: 3, Key: 5, Value: 1, Entries: 16}, 9}, {api.MapSpec{Kind: 4, Key: 5, Value: 1, Entries: 16}, 9}, {api.MapSpec{Kind: 5, Value: 1, Entries: 16}, 9}, {api.MapSpec{Kind: 6, Value: 1, Entries: 16}, 9}, {api.MapSpec{Kind: 8, Key: 4, Value: 8, Entries: 16}, 9},
		{specOf(16), 0}, {specOf(17), 0}, {specOf(16383), 0}, {specOf(16384), 0},
	} {
		if r, e := ring.New(x.s); e != x.e || (r != nil) != (e == api.OK) {
			t.Errorf("New(%+v): %v, %v; want %v", x.s, r != nil, e, x.e)
		}
	}
}

// ofAnother is a make with a ring's parts, of another Kind, which they do not fit.
func ofAnother(kind api.MapKind) api.MapSpec {
	return api.MapSpec{Kind: kind, Entries: 16}
}

// No record is there at first, however many bytes there are; then there is room for all of them, and no more.
func TestP15_1Empty(t *testing.T) {
	for entries := least; entries <= most; entries += 1 + entries/100 {
		x := newBoth(t, entries)
		x.drain()
		x.fill(recordOf(entries-head, entries))
		if e := x.puts(nil); e != api.ErrFull {
			t.Fatalf("of %d: %v", entries, e)
		}
		x.drain()
	}
	for _, entries := range sizes() {
		x := newBoth(t, entries)
		x.drain()
		x.fillTo(0)
		x.puts(nil)
		x.all()
		x.drain()
	}
}

// checkNothing asks a ring that is not there for everything, right or wrong.
func checkNothing(t *testing.T, name string, r *ring.Ring) {
	t.Helper()
	for range 2 {
		for _, record := range [][]byte{nil, {}, {1}, recordOf(8, 1), recordOf(30, 1), make([]byte, most), make([]byte, maxRecord), make([]byte, maxRecord+1)} {
			if e := r.Put(record); e != api.ErrNil {
				t.Errorf("%s: Put of %d bytes: %v", name, len(record), e)
			}
		}
		if b, e := r.Take(); b != nil || e != api.ErrNil {
			t.Errorf("%s: Take: %v, %v", name, b, e)
		}
		if n := r.Room(); n != 0 {
			t.Errorf("%s: Room: %d", name, n)
		}
	}
}

// What New did not answer is no ring.
func TestP15_1NoRing(t *testing.T) {
	var none *ring.Ring
	checkNothing(t, "nil", none)
	checkNothing(t, "zero", &ring.Ring{})
	checkNothing(t, "new", new(ring.Ring))
	rings := make([]ring.Ring, 2)
	checkNothing(t, "of a slice", &rings[1])
	for _, s := range []api.MapSpec{{}, specOf(15), specOf(16385), {Kind: 5, Value: 1, Entries: 16}} {
		refused, _ := ring.New(s)
		checkNothing(t, "refused", refused)
	}
	x := newBoth(t, 64)
	x.fill(recordsOf(4, 0, 7)...)
	copied := *x.r
	checkNothing(t, "a copy", &copied)
	x.look()
	x.all()
	x.fill(recordOf(3, 9))
	x.takes()
	checkNothing(t, "a copy", &copied)
	x.drain()
	checkNothing(t, "a copy", &copied)
}

func TestP15_2Example(t *testing.T) {
	r, e := ring.New(api.MapSpec{Kind: api.MapRing, Key: 0, Value: 0, Entries: 20})
	if r == nil || e != api.OK || r.Room() != 20 {
		t.Fatalf("New: %v, %v", r != nil, e)
	}
	checkPut(t, r, "ab", api.OK, 10)
	checkPut(t, r, "abc", api.ErrFull, 10)
	checkPut(t, r, "", api.OK, 2)
	checkTake(t, r, "ab", 12)
	checkTake(t, r, "", 20)
	checkEmpty(t, r, 20)
}

// A longer one by hand: what is left behind each call, and what is told.
func TestP15_2ByHand(t *testing.T) {
	r, _ := ring.New(specOf(40))
	checkEmpty(t, r, 40)
	checkPut(t, r, "abcdefgh", api.OK, 24)
	checkPut(t, r, "i", api.OK, 15)
	checkPut(t, r, "jklmnopq", api.ErrFull, 15)
	checkPut(t, r, "jklmnop", api.OK, 0)
	checkPut(t, r, "", api.ErrFull, 0)
	checkTake(t, r, "abcdefgh", 16)
	checkPut(t, r, "012345678", api.ErrFull, 16)
	checkPut(t, r, "", api.OK, 8)
	checkPut(t, r, "0", api.ErrFull, 8)
	checkPut(t, r, "", api.OK, 0)
	checkTake(t, r, "i", 9)
	checkPut(t, r, "jk", api.ErrFull, 9)
	checkPut(t, r, "j", api.OK, 0)
	checkTake(t, r, "jklmnop", 15)
	checkTake(t, r, "", 23)
	checkTake(t, r, "", 31)
	checkTake(t, r, "j", 40)
	checkEmpty(t, r, 40)
	checkPut(t, r, "abcdefghijklmnopqrstuvwxyz0123456", api.ErrFull, 40)
	checkPut(t, r, "abcdefghijklmnopqrstuvwxyz012345", api.OK, 0)
	checkTake(t, r, "abcdefghijklmnopqrstuvwxyz012345", 40)
	checkEmpty(t, r, 40)
}

// Records of each number of bytes, put into rings without records: those up to eight fewer than the ring has.
func TestP15_2Lengths(t *testing.T) {
	for _, entries := range sizes() {
		x := newBoth(t, entries)
		fits := 0
		for length := 0; length <= entries+300; length += 1 + length/200 {
			if x.puts(recordOf(length, entries)) == api.OK {
				fits++
			}
			x.drain()
		}
		for length := entries - 20; length <= entries+20; length++ {
			x.puts(recordOf(max(0, length), entries))
			x.drain()
		}
		if entries <= 128 && fits != entries-head+1 {
			t.Errorf("of %d: %d lengths were put", entries, fits)
		}
	}
}

// Each number of bytes that may be left, and records that take as much, one byte less and one more, and others: two records in a ring of each small size.
func TestP15_2WhatIsLeft(t *testing.T) {
	for entries := least; entries <= 48; entries++ {
		for first := 0; first <= entries-head; first++ {
			left := entries - head - first
			for second := 0; second <= left+2; second++ {
				x := newBoth(t, entries)
				x.fill(recordOf(first, 1))
				want := api.OK
				if second > left-head {
					want = api.ErrFull
				}
				if e := x.puts(recordOf(second, 2)); e != want {
					t.Fatalf("of %d: %d bytes behind %d: %v; want %v", entries, second, first, e, want)
				}
				x.drain()
			}
		}
	}
}

// Full, full but for one byte, but for two, and so on: a record without bytes takes eight, and what is left is left.
func TestP15_2FullButFor(t *testing.T) {
	for _, entries := range sizes() {
		for left := range min(25, entries-head+1) {
			x := newBoth(t, entries)
			x.fillTo(left)
			if x.room() != left {
				t.Fatalf("of %d: %d are left, not %d", entries, x.room(), left)
			}
			for _, more := range []int{100, 17, left - head + 1} {
				if more > left-head && more >= 0 && x.puts(recordOf(more, 3)) != api.ErrFull {
					t.Fatalf("of %d, %d left: %d bytes were put", entries, left, more)
				}
			}
			x.all()
			for x.puts(nil) == api.OK {
			}
			if x.room() != left%head {
				t.Fatalf("of %d, %d left: then %d", entries, left, x.room())
			}
			x.drain()
		}
	}
}

// Records of as many bytes as may be, and one more, with all the room there may be, with some, and without.
func TestP15_2Long(t *testing.T) {
	for _, entries := range sizes() {
		for _, left := range []int{entries, 1 + entries/3, 8, 1, 0} {
			x := newBoth(t, entries)
			if left <= entries-head {
				x.fillTo(left)
			}
			for _, y := range []struct {
				length int
				e      api.Errno
			}{
				{most - head + 1, 8}, {most, 8}, {maxRecord - head, 8}, {maxRecord - 1, 8}, {maxRecord, 8},
				{maxRecord + 1, 3}, {maxRecord + 2, 3}, {maxRecord + head, 3}, {maxRecord + most, 3}, {2 * maxRecord, 3}, {2*maxRecord + 1, 3}, {1 << 20, 3},
			} {
				if e := x.puts(make([]byte, y.length)); e != y.e {
					t.Fatalf("of %d, %d left: %d bytes: %v; want %v", entries, x.room(), y.length, e, y.e)
				}
			}
			x.drain()
		}
	}
}

// Of several errors the first one is told.
func TestP15_2FirstError(t *testing.T) {
	var none *ring.Ring
	long := string(make([]byte, maxRecord+1))
	checkPut(t, none, long, api.ErrNil, 0)
	checkPut(t, none, long[1:], api.ErrNil, 0)
	checkPut(t, none, "", api.ErrNil, 0)
	r, _ := ring.New(specOf(16))
	checkPut(t, r, long, api.ErrLong, 16)
	checkPut(t, r, long[1:], api.ErrFull, 16)
	checkPut(t, r, "12345678", api.OK, 0)
	checkPut(t, r, long, api.ErrLong, 0)
	checkPut(t, r, long[1:], api.ErrFull, 0)
	checkPut(t, r, "", api.ErrFull, 0)
	checkTake(t, r, "12345678", 16)
	checkEmpty(t, r, 16)
}

// Records without bytes take eight, whether they are nil or not, and are told as none and OK, each once.
func TestP15_2NoBytes(t *testing.T) {
	for _, entries := range sizes() {
		for _, record := range [][]byte{nil, {}, recordOf(30, 1)[7:7], make([]byte, 0, 100)} {
			r, _ := ring.New(specOf(entries))
			many := 0
			for r.Put(record) == api.OK {
				many++
				if r.Room() != entries-8*many {
					t.Fatalf("of %d: %d are left behind %d", entries, r.Room(), many)
				}
			}
			if many != entries/8 {
				t.Fatalf("of %d: %d records", entries, many)
			}
			for n := range many {
				if b, e := r.Take(); b != nil || e != api.OK || r.Room() != entries-8*(many-n-1) {
					t.Fatalf("of %d: the record %d: %v, %v, %d", entries, n, b, e, r.Room())
				}
			}
			checkEmpty(t, r, entries)
		}
	}
}

// Each byte that may be stands in a record as it was, at each place.
func TestP15_2EachByte(t *testing.T) {
	x := newBoth(t, most)
	record := make([]byte, 256)
	for n := range 256 {
		x.fill([]byte{byte(n)})
		record[n] = byte(255 - n)
	}
	x.fill(record)
	x.drain()
	for n := range 256 {
		x.fill(bytes.Repeat([]byte{byte(n)}, n%32))
	}
	x.drain()
}

// A ring without records, of one, and of more, up to full: what is left behind each call.
func TestP15_2Room(t *testing.T) {
	for _, entries := range sizes() {
		for _, left := range []int{entries, entries - head, entries / 2, 9, 8, 7, 1, 0} {
			for call := range 6 {
				x := newBoth(t, entries)
				if left <= entries-head {
					x.fillTo(left)
				}
				left := x.room()
				behind := left
				switch call {
				case 0:
					x.puts(nil)
					if left >= 8 {
						behind = left - 8
					}
				case 1:
					x.puts([]byte("a"))
					if left >= 9 {
						behind = left - 9
					}
				case 2:
					if len(x.there()) > 0 {
						behind = left + 8 + len(x.there()[0])
					}
					x.takes()
				case 3:
					x.puts(make([]byte, max(0, left-head+1)))
				case 4:
					x.puts(make([]byte, maxRecord+1))
				case 5:
					x.puts(make([]byte, max(0, left-head)))
					if left >= 8 {
						behind = 0
					}
				}
				if n := x.r.Room(); n != behind {
					t.Fatalf("call %d, %d of %d left: %d; want %d", call, left, entries, n, behind)
				}
				x.drain()
			}
		}
	}
}

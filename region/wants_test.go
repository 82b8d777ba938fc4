package region_test

import (
	"bytes"
	"math/big"
	"slices"
	"testing"

	"hatchway/api"
	"hatchway/region"
)

// wantRegion is a region by the chapter's words.
type wantRegion struct {
	kind  api.RegionKind
	bytes []byte
	freed bool
}

// both is a memory, and what it must be by the chapter's words: all regions that were ever made, in order.
type both struct {
	t    *testing.T
	m    *region.Memory
	want []wantRegion
}

func newBoth(t *testing.T) *both {
	return &both{t: t, m: region.New()}
}

// live tells a region that is; nil, if there is none of that number.
func (x *both) live(number int) *wantRegion {
	if number < 1 || number > len(x.want) || x.want[number-1].freed {
		return nil
	}
	return &x.want[number-1]
}

// fits asks for off and size by numbers without an end.
func fits(r *wantRegion, off int64, size int) bool {
	sum := new(big.Int).Add(big.NewInt(off), big.NewInt(int64(size)))
	return off >= 0 && size >= 0 && sum.Cmp(big.NewInt(int64(len(r.bytes)))) <= 0
}

// handed is a copy of b within other bytes, which tells whether it and they are as they were, and is written over behind the call.
type handed struct {
	all, was []byte
	size     int
}

func handOf(b []byte) *handed {
	all := slices.Concat([]byte("<<<<"), b, []byte(">>>>>>>>"))
	return &handed{all: all, was: bytes.Clone(all), size: len(b)}
}

func (h *handed) bytes() []byte {
	return h.all[4 : 4+h.size]
}

func (h *handed) back(t *testing.T) {
	t.Helper()
	if !bytes.Equal(h.all, h.was) {
		t.Fatalf("the %d bytes that were handed in, or those beside them, were changed", h.size)
	}
	overwrite(h.all)
}

// overwrite leaves nothing of b, nor of what its memory has behind it.
func overwrite(b []byte) {
	b = b[:cap(b)]
	for i := range b {
		b[i] ^= 0x5a
	}
}

func (x *both) make(kind api.RegionKind, b []byte) int {
	x.t.Helper()
	number, want := 0, api.OK
	switch {
	case kind < 1 || kind > 5:
		want = api.ErrArg
	case len(b) > 4096:
		want = api.ErrLong
	default:
		x.want = append(x.want, wantRegion{kind: kind, bytes: bytes.Clone(b)})
		number = len(x.want)
	}
	hand := handOf(b)
	n, e := x.m.Make(kind, hand.bytes())
	if n != number || e != want {
		x.t.Fatalf("Make(%d, %d bytes): %d, %v; want %d, %v", kind, len(b), n, e, number, want)
	}
	hand.back(x.t)
	return n
}

func (x *both) read(number int, off int64, size int) {
	x.t.Helper()
	want, b := api.OK, []byte(nil)
	if r := x.live(number); r == nil {
		want = api.ErrNone
	} else if !fits(r, off, size) {
		want = api.ErrBounds
	} else {
		b = r.bytes[off:][:size]
	}
	got, e := x.m.Read(number, off, size)
	if e != want || !bytes.Equal(got, b) {
		x.t.Fatalf("Read(%d, %d, %d): %v, %v; want %v, %v", number, off, size, got, e, b, want)
	}
	if len(got) == 0 && got != nil {
		x.t.Fatalf("Read(%d, %d, %d): no bytes that are not nil", number, off, size)
	}
	overwrite(got)
}

func (x *both) write(number int, off int64, b []byte) {
	x.t.Helper()
	want := api.OK
	if r := x.live(number); r == nil {
		want = api.ErrNone
	} else if !fits(r, off, len(b)) {
		want = api.ErrBounds
	} else {
		for i, c := range b {
			r.bytes[int(off)+i] = c
		}
	}
	hand := handOf(b)
	if e := x.m.Write(number, off, hand.bytes()); e != want {
		x.t.Fatalf("Write(%d, %d, %d bytes): %v; want %v", number, off, len(b), e, want)
	}
	hand.back(x.t)
}

func (x *both) free(number int) {
	x.t.Helper()
	want := api.ErrNone
	if r := x.live(number); r != nil {
		*r, want = wantRegion{freed: true}, api.OK
	}
	if e := x.m.Free(number); e != want {
		x.t.Fatalf("Free(%d): %v; want %v", number, e, want)
	}
}

// same asks for all that a memory tells of one number.
func (x *both) same(number int) {
	x.t.Helper()
	want := wantRegion{}
	if r := x.live(number); r != nil {
		want = *r
	}
	if kind := x.m.Kind(number); kind != want.kind {
		x.t.Fatalf("Kind(%d): %d; want %d", number, kind, want.kind)
	}
	if size := x.m.Size(number); size != len(want.bytes) {
		x.t.Fatalf("Size(%d): %d; want %d", number, size, len(want.bytes))
	}
	x.read(number, 0, len(want.bytes))
	x.read(number, 0, len(want.bytes)+1)
}

// all asks for all that a memory tells, of the numbers that were given, and of some that were not.
func (x *both) all() {
	x.t.Helper()
	for number := -2; number <= len(x.want)+2; number++ {
		x.same(number)
	}
}

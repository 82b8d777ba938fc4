package array_test

import (
	"bytes"
	"math"
	"math/big"
	"slices"
	"testing"

	"hatchway/api"
	"hatchway/array"
)

// specOf is an array's make, right if its parts are.
func specOf(value, entries int) api.MapSpec {
	return api.MapSpec{Kind: 1, Key: 4, Value: value, Entries: entries}
}

// wantNew tells by the chapters' tables what New answers.
func wantNew(s api.MapSpec) api.Errno {
	const most = 1024
	type row struct{ keyLo, keyHi, valueLo, valueHi, entriesLo, entriesHi int }
	table := []row{
		1: {4, 4, 1, most, 1, most},
		2: {1, 64, 1, most, 1, most},
		3: {1, 64, 1, most, 1, most},
		4: {5, 36, 1, most, 1, most},
		5: {0, 0, 1, most, 1, most},
		6: {0, 0, 1, most, 1, most},
		7: {0, 0, 0, 0, 16, 16384},
		8: {4, 4, 8, 8, 1, 64},
	}
	if s.Kind == 0 || int(s.Kind) >= len(table) {
		return api.ErrKind
	}
	r := table[s.Kind]
	switch {
	case s.Key < r.keyLo, s.Key > r.keyHi, s.Value < r.valueLo, s.Value > r.valueHi, s.Entries < r.entriesLo, s.Entries > r.entriesHi:
		return api.ErrArg
	case s.Kind != 1:
		return api.ErrKind
	}
	return api.OK
}

// both is an array, and what it must be by the chapter's words: the values of all places.
type both struct {
	t    *testing.T
	a    *array.Array
	size int
	want [][]byte
}

func newBoth(t *testing.T, value, entries int) *both {
	t.Helper()
	a, e := array.New(specOf(value, entries))
	if a == nil || e != api.OK {
		t.Fatalf("New(%d, %d): %v, %v", value, entries, a, e)
	}
	x := &both{t: t, a: a, size: value}
	for range entries {
		x.want = append(x.want, make([]byte, value))
	}
	return x
}

// keyOf tells the four bytes of a place.
func keyOf(place uint32) []byte {
	b := make([]byte, 4)
	for i := range b {
		b[i], place = byte(place%256), place/256
	}
	return b
}

// said tells the place that four bytes say, of which the last counts most.
func said(key []byte) *big.Int {
	turned := bytes.Clone(key)
	slices.Reverse(turned)
	return new(big.Int).SetBytes(turned)
}

// there asks whether the array has a place.
func (x *both) there(place *big.Int) bool {
	return place.Sign() >= 0 && place.Cmp(big.NewInt(int64(len(x.want)))) < 0
}

// fits asks for off and size by numbers without an end.
func (x *both) fits(off, size int) bool {
	sum := new(big.Int).Add(big.NewInt(int64(off)), big.NewInt(int64(size)))
	return off >= 0 && sum.Cmp(big.NewInt(int64(x.size))) <= 0
}

// handed is a copy of b within other bytes, which tells whether it and they are as they were, and is written over behind the call.
type handed struct {
	all, was []byte
	size     int
}

func handOf(b []byte) *handed {
	all := slices.Concat([]byte("<<<<"), b, []byte(">>>>>>>>"))
	return &handed{all: all, was: bytes.Clone(all), size: len(b)}
}

func (h *handed) bytes() []byte {
	return h.all[4 : 4+h.size]
}

func (h *handed) back(t *testing.T) {
	t.Helper()
	if !bytes.Equal(h.all, h.was) {
		t.Fatalf("the %d bytes that were handed in, or those beside them, were changed", h.size)
	}
	overwrite(h.all)
}

// overwrite leaves nothing of b, nor of what its memory has behind it.
func overwrite(b []byte) {
	b = b[:cap(b)]
	for i := range b {
		b[i] ^= 0x5a
	}
}

func (x *both) lookup(key []byte) {
	x.t.Helper()
	place, want := 0, api.OK
	switch {
	case len(key) != 4:
		want = api.ErrArg
	case !x.there(said(key)):
		want = api.ErrNone
	default:
		place = int(said(key).Int64())
	}
	hand := handOf(key)
	if n, e := x.a.Lookup(hand.bytes()); n != place || e != want {
		x.t.Fatalf("Lookup(%v): %d, %v; want %d, %v", key, n, e, place, want)
	}
	hand.back(x.t)
}

func (x *both) update(key, value []byte, flags uint64) api.Errno {
	x.t.Helper()
	want := api.OK
	switch {
	case len(key) != 4, len(value) != x.size, flags > 2:
		want = api.ErrArg
	case !x.there(said(key)):
		want = api.ErrNone
	case flags == 1:
		want = api.ErrThere
	default:
		x.want[said(key).Int64()] = bytes.Clone(value)
	}
	one, two := handOf(key), handOf(value)
	e := x.a.Update(one.bytes(), two.bytes(), flags)
	if e != want {
		x.t.Fatalf("Update(%v, %d bytes, %d): %v; want %v", key, len(value), flags, e, want)
	}
	one.back(x.t)
	two.back(x.t)
	return e
}

func (x *both) delete(key []byte) {
	x.t.Helper()
	hand := handOf(key)
	if e := x.a.Delete(hand.bytes()); e != api.ErrKind {
		x.t.Fatalf("Delete(%v): %v", key, e)
	}
	hand.back(x.t)
}

func (x *both) value(place int) {
	x.t.Helper()
	want, wanted := api.ErrNone, []byte(nil)
	if x.there(big.NewInt(int64(place))) {
		want, wanted = api.OK, x.want[place]
	}
	b, e := x.a.Value(place)
	if e != want || !bytes.Equal(b, wanted) || e != api.OK && b != nil {
		x.t.Fatalf("Value(%d): %v, %v; want %v, %v", place, b, e, wanted, want)
	}
	overwrite(b)
}

func (x *both) set(place, off int, b []byte) api.Errno {
	x.t.Helper()
	want := api.OK
	switch {
	case !x.there(big.NewInt(int64(place))):
		want = api.ErrNone
	case !x.fits(off, len(b)):
		want = api.ErrBounds
	default:
		for i, c := range b {
			x.want[place][off+i] = c
		}
	}
	hand := handOf(b)
	e := x.a.Set(place, off, hand.bytes())
	if e != want {
		x.t.Fatalf("Set(%d, %d, %d bytes): %v; want %v", place, off, len(b), e, want)
	}
	hand.back(x.t)
	return e
}

// all asks for the values of all places, and of those that are none.
func (x *both) all() {
	x.t.Helper()
	for place := range x.want {
		x.value(place)
	}
	for _, place := range x.noPlaces() {
		x.value(place)
	}
}

// noPlaces are below 0 and past the last.
func (x *both) noPlaces() []int {
	n := len(x.want)
	return []int{math.MinInt64, math.MinInt64 + 1, -1 << 32, -1<<32 + 1, -n, -2, -1, n, n + 1, 2 * n, 1024, 1025, 1 << 31, 1 << 32, 1<<32 + 1, 1 << 62, math.MaxInt64 - 1, math.MaxInt64}
}

// row is so many bytes, no two of 251 alike, none of them 0.
func row(size int) []byte {
	b := make([]byte, size)
	for i := range b {
		b[i] = byte(i%251 + 1)
	}
	return b
}

// keys are those of the places of an array of n, of none, and bytes that are no key.
func keys(n int) [][]byte {
	var all [][]byte
	for _, place := range []uint32{0, 1, 2, 3, uint32(n) / 2, uint32(n) - 2, uint32(n) - 1, uint32(n), uint32(n) + 1, 255, 256, 257, 1023, 1024, 65535, 65536, 65537, 1<<24 - 1, 1 << 24, 1<<24 + 1, 1<<31 - 1, 1 << 31, 1<<31 + 1, math.MaxUint32 - 1, math.MaxUint32} {
		all = append(all, keyOf(place))
	}
	all = append(all, nil)
	for size := range 12 {
		all = append(all, make([]byte, size), slices.Repeat([]byte{255}, size))
	}
	return append(all, make([]byte, 64), make([]byte, 256), make([]byte, 260), make([]byte, 1<<16+4))
}

// flags are the three that there are, and those beyond.
func flags() []uint64 {
	return []uint64{0, 1, 2, 3, 4, 5, 7, 8, 255, 256, 257, 258, 1 << 31, 1 << 32, 1<<32 + 1, 1<<32 + 2, 1 << 63, 1<<63 + 1, math.MaxUint64 - 1, math.MaxUint64}
}

// edges are places and numbers of bytes about a value of that size, and those at the ends of what a number may be.
func edges(size int) []int {
	return []int{math.MinInt64, math.MinInt64 + 1, math.MinInt64 + size, -1 << 32, -size - 1, -size, -2, -1, 0, 1, 2, size / 2, size - 2, size - 1, size, size + 1, size + 2, 2 * size, 1024, 1025, 1 << 31, 1 << 32, 1<<32 + 1, math.MaxInt64 - size - 1, math.MaxInt64 - size, math.MaxInt64 - size + 1, math.MaxInt64 - 1, math.MaxInt64}
}

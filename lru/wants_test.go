package lru_test

import (
	"bytes"
	"math"
	"math/big"
	"slices"
	"testing"

	"hatchway/api"
	"hatchway/lru"
)

// specOf is an lru's make, right if its parts are.
func specOf(key, value, entries int) api.MapSpec {
	return api.MapSpec{Kind: 3, Key: key, Value: value, Entries: entries}
}

// wantNew tells by the chapters' tables what New answers.
func wantNew(s api.MapSpec) api.Errno {
	const most = 1024
	type row struct{ keyLo, keyHi, valueLo, valueHi, entriesLo, entriesHi int }
	table := []row{
		1: {4, 4, 1, most, 1, most},
		2: {1, 64, 1, most, 1, most},
		3: {1, 64, 1, most, 1, most},
		4: {5, 36, 1, most, 1, most},
		5: {0, 0, 1, most, 1, most},
		6: {0, 0, 1, most, 1, most},
		7: {0, 0, 0, 0, 16, 16384},
		8: {4, 4, 8, 8, 1, 64},
	}
	if s.Kind == 0 || int(s.Kind) >= len(table) {
		return api.ErrKind
	}
	r := table[s.Kind]
	switch {
	case s.Key < r.keyLo, s.Key > r.keyHi, s.Value < r.valueLo, s.Value > r.valueHi, s.Entries < r.entriesLo, s.Entries > r.entriesHi:
		return api.ErrArg
	case s.Kind != 3:
		return api.ErrKind
	}
	return api.OK
}

// both is an lru, and what it must be by the chapter's words: what stands at each place, and at which turn its key was looked up or updated last.
type both struct {
	t      *testing.T
	l      *lru.Lru
	size   int // of a key
	turn   int
	places []place
}

type place struct {
	value []byte
	taken bool
	key   []byte
	last  int
}

func newBoth(t *testing.T, key, value, entries int) *both {
	t.Helper()
	l, e := lru.New(specOf(key, value, entries))
	if l == nil || e != api.OK {
		t.Fatalf("New(%d, %d, %d): %v, %v", key, value, entries, l != nil, e)
	}
	x := &both{t: t, l: l, size: key}
	for range entries {
		x.places = append(x.places, place{value: make([]byte, value)})
	}
	return x
}

// valueSize is how many bytes each place has.
func (x *both) valueSize() int {
	return len(x.places[0].value)
}

// where tells the place that a key has, and whether it has one.
func (x *both) where(key []byte) (int, bool) {
	for i, p := range x.places {
		if p.taken && bytes.Equal(p.key, key) {
			return i, true
		}
	}
	return 0, false
}

// touch makes the key of a place the youngest.
func (x *both) touch(place int) {
	x.turn++
	x.places[place].last = x.turn
}

// eldest tells the place whose key was looked up or updated longest ago.
func (x *both) eldest() int {
	found := -1
	for i, p := range x.places {
		if p.taken && (found < 0 || p.last < x.places[found].last) {
			found = i
		}
	}
	return found
}

// room tells the first place without a key, or the eldest key's, if there is none.
func (x *both) room() int {
	for i, p := range x.places {
		if !p.taken {
			return i
		}
	}
	return x.eldest()
}

// there asks whether the lru has a place.
func (x *both) there(place *big.Int) bool {
	return place.Sign() >= 0 && place.Cmp(big.NewInt(int64(len(x.places)))) < 0
}

// fits asks for off and size by numbers without an end.
func (x *both) fits(off, size int) bool {
	sum := new(big.Int).Add(big.NewInt(int64(off)), big.NewInt(int64(size)))
	return off >= 0 && sum.Cmp(big.NewInt(int64(x.valueSize()))) <= 0
}

// handed is a copy of b within other bytes, which tells whether it and they are as they were, and is written over behind the call.
type handed struct {
	all, was []byte
	size     int
}

func handOf(b []byte) *handed {
	all := slices.Concat([]byte("<<<<"), b, []byte(">>>>>>>>"))
	return &handed{all: all, was: bytes.Clone(all), size: len(b)}
}

func (h *handed) bytes() []byte {
	return h.all[4 : 4+h.size]
}

func (h *handed) back(t *testing.T) {
	t.Helper()
	if !bytes.Equal(h.all, h.was) {
		t.Fatalf("the %d bytes that were handed in, or those beside them, were changed", h.size)
	}
	overwrite(h.all)
}

// overwrite leaves nothing of b, nor of what its memory has behind it.
func overwrite(b []byte) {
	b = b[:cap(b)]
	for i := range b {
		b[i] ^= 0x5a
	}
}

func (x *both) lookup(key []byte) api.Errno {
	x.t.Helper()
	want := api.OK
	at, there := x.where(key)
	switch {
	case len(key) != x.size:
		want = api.ErrArg
	case !there:
		want = api.ErrNone
	default:
		x.touch(at)
	}
	hand := handOf(key)
	n, e := x.l.Lookup(hand.bytes())
	if n != at || e != want {
		x.t.Fatalf("Lookup(%v): %d, %v; want %d, %v", key, n, e, at, want)
	}
	hand.back(x.t)
	return e
}

// wantUpdate tells what an update answers, and the place at which the value stands then.
func (x *both) wantUpdate(key, value []byte, flags uint64) (int, api.Errno) {
	at, there := x.where(key)
	switch {
	case len(key) != x.size, len(value) != x.valueSize(), flags > 2:
		return 0, api.ErrArg
	case there && flags == 1:
		return 0, api.ErrThere
	case there:
		return at, api.OK
	case flags == 2:
		return 0, api.ErrNone
	}
	return x.room(), api.OK
}

func (x *both) update(key, value []byte, flags uint64) api.Errno {
	x.t.Helper()
	at, want := x.wantUpdate(key, value, flags)
	if want == api.OK {
		x.places[at] = place{value: bytes.Clone(value), taken: true, key: bytes.Clone(key)}
		x.touch(at)
	}
	one, two := handOf(key), handOf(value)
	e := x.l.Update(one.bytes(), two.bytes(), flags)
	if e != want {
		x.t.Fatalf("Update(%v, %d bytes, %d): %v; want %v", key, len(value), flags, e, want)
	}
	one.back(x.t)
	two.back(x.t)
	return e
}

func (x *both) delete(key []byte) api.Errno {
	x.t.Helper()
	want := api.OK
	at, there := x.where(key)
	switch {
	case len(key) != x.size:
		want = api.ErrArg
	case !there:
		want = api.ErrNone
	default:
		x.places[at].taken = false
		x.places[at].key = nil
	}
	hand := handOf(key)
	e := x.l.Delete(hand.bytes())
	if e != want {
		x.t.Fatalf("Delete(%v): %v; want %v", key, e, want)
	}
	hand.back(x.t)
	return e
}

func (x *both) value(place int) {
	x.t.Helper()
	want, wanted := api.ErrNone, []byte(nil)
	if x.there(big.NewInt(int64(place))) {
		want, wanted = api.OK, x.places[place].value
	}
	b, e := x.l.Value(place)
	if e != want || !bytes.Equal(b, wanted) || e != api.OK && b != nil {
		x.t.Fatalf("Value(%d): %v, %v; want %v, %v", place, b, e, wanted, want)
	}
	overwrite(b)
}

func (x *both) set(place, off int, b []byte) api.Errno {
	x.t.Helper()
	want := api.OK
	switch {
	case !x.there(big.NewInt(int64(place))):
		want = api.ErrNone
	case !x.fits(off, len(b)):
		want = api.ErrBounds
	default:
		for i, c := range b {
			x.places[place].value[off+i] = c
		}
	}
	hand := handOf(b)
	e := x.l.Set(place, off, hand.bytes())
	if e != want {
		x.t.Fatalf("Set(%d, %d, %d bytes): %v; want %v", place, off, len(b), e, want)
	}
	hand.back(x.t)
	return e
}

// order tells the places of all keys, by the turns at which these were looked up or updated last.
func (x *both) order() []int {
	var all []int
	for i, p := range x.places {
		if p.taken {
			all = append(all, i)
		}
	}
	slices.SortFunc(all, func(a, b int) int { return x.places[a].last - x.places[b].last })
	return all
}

// keys asks for the keys, the eldest first. What was told of one is written over before the next one is looked at.
func (x *both) keys() {
	x.t.Helper()
	told, wanted := x.l.Keys(), x.order()
	if len(told) != len(wanted) {
		x.t.Fatalf("Keys: %v; want %d", told, len(wanted))
	}
	for i, key := range told {
		if want := x.places[wanted[i]].key; !bytes.Equal(key, want) {
			x.t.Fatalf("Keys: %v at %d; want %v", key, i, want)
		}
		overwrite(key)
	}
	clear(told[:cap(told)])
}

// look asks for the values of all places, and of those that are none, and for all keys: none of it changes the order.
func (x *both) look() {
	x.t.Helper()
	for i := range x.places {
		x.value(i)
	}
	for _, place := range x.noPlaces() {
		x.value(place)
	}
	x.keys()
}

// all asks for the places of all keys, too: the eldest key first, so that the order is the same behind it.
func (x *both) all() {
	x.t.Helper()
	x.look()
	for _, at := range x.order() {
		x.lookup(x.places[at].key)
	}
	x.keys()
}

// fill puts so many keys, from the one of a number on, with values of their own.
func (x *both) fill(from, many int) {
	x.t.Helper()
	for n := from; n < from+many; n++ {
		if e := x.update(keyOf(x.size, n), valueOf(x.valueSize(), n), uint64(n%2)); e != api.OK {
			x.t.Fatalf("key %d: %v", n, e)
		}
	}
}

// noPlaces are below 0 and past the last.
func (x *both) noPlaces() []int {
	n := len(x.places)
	return []int{math.MinInt64, math.MinInt64 + 1, -1 << 32, -1<<32 + 1, -n, -2, -1, n, n + 1, 2 * n, 1024, 1025, 1 << 31, 1 << 32, 1<<32 + 1, 1 << 62, math.MaxInt64 - 1, math.MaxInt64}
}

// keyOf tells the key of a number: its bytes, the lowest first. (Of one byte there are 256 keys.)
func keyOf(size, n int) []byte {
	b := make([]byte, size)
	for i := range b {
		b[i], n = byte(n%256), n/256
	}
	return b
}

// valueOf tells bytes that hang on a number, those at both ends alone, too.
func valueOf(size, n int) []byte {
	b := make([]byte, size)
	for i := range b {
		b[i] = byte(i*7 + n*31 + n/256 + 1)
	}
	return b
}

// row is so many bytes, no two of 251 alike, none of them 0.
func row(size int) []byte {
	b := make([]byte, size)
	for i := range b {
		b[i] = byte(i%251 + 1)
	}
	return b
}

// keys are some of so many bytes, and such as have less or more.
func keys(size int) [][]byte {
	var all [][]byte
	for _, n := range []int{0, 1, 2, 3, 9, 10, 65, 97, 127, 128, 255, 256, 1 << 16, 1<<31 - 1, 1 << 31, 1 << 32, 1 << 56, math.MaxInt64} {
		key := keyOf(size, n)
		turned := bytes.Clone(key)
		slices.Reverse(turned)
		all = append(all, key, turned)
	}
	for _, c := range []byte{0, 1, 'a', 'A', 0x7f, 0x80, 0xc3, 0xff} {
		for _, many := range []int{size, size - 1, size + 1, size / 2, size + 2, 2 * size, size + 256, 0} {
			all = append(all, slices.Repeat([]byte{c}, many))
		}
	}
	return append(all, row(size), nil, make([]byte, 65), make([]byte, 1<<16+size))
}

// flags are the three that there are, and those beyond.
func flags() []uint64 {
	return []uint64{0, 1, 2, 3, 4, 5, 7, 8, 255, 256, 257, 258, 1 << 31, 1 << 32, 1<<32 + 1, 1<<32 + 2, 1 << 63, 1<<63 + 1, math.MaxUint64 - 1, math.MaxUint64}
}

// edges are places and numbers of bytes about a value of that size, and those at the ends of what a number may be.
func edges(size int) []int {
	return []int{math.MinInt64, math.MinInt64 + 1, math.MinInt64 + size, -1 << 32, -size - 1, -size, -2, -1, 0, 1, 2, size / 2, size - 2, size - 1, size, size + 1, size + 2, 2 * size, 1024, 1025, 1 << 31, 1 << 32, 1<<32 + 1, math.MaxInt64 - size - 1, math.MaxInt64 - size, math.MaxInt64 - size + 1, math.MaxInt64 - 1, math.MaxInt64}
}

package trie_test

import (
	"bytes"
	"math"
	"math/big"
	"slices"
	"strings"
	"testing"

	"hatchway/api"
	"hatchway/trie"
)

// specOf is a trie's make, right if its parts are.
func specOf(key, value, entries int) api.MapSpec {
	return api.MapSpec{Kind: 4, Key: key, Value: value, Entries: entries}
}

// wantNew tells by the chapters' tables what New answers.
func wantNew(s api.MapSpec) api.Errno {
	const most = 1024
	type row struct{ keyLo, keyHi, valueLo, valueHi, entriesLo, entriesHi int }
	table := []row{
		1: {4, 4, 1, most, 1, most},
		2: {1, 64, 1, most, 1, most},
		3: {1, 64, 1, most, 1, most},
		4: {5, 36, 1, most, 1, most},
		5: {0, 0, 1, most, 1, most},
		6: {0, 0, 1, most, 1, most},
		7: {0, 0, 0, 0, 16, 16384},
		8: {4, 4, 8, 8, 1, 64},
	}
	if s.Kind == 0 || int(s.Kind) >= len(table) {
		return api.ErrKind
	}
	r := table[s.Kind]
	switch {
	case s.Key < r.keyLo, s.Key > r.keyHi, s.Value < r.valueLo, s.Value > r.valueHi, s.Entries < r.entriesLo, s.Entries > r.entriesHi:
		return api.ErrArg
	case s.Kind != 4:
		return api.ErrKind
	}
	return api.OK
}

// textOf tells a key's bits as a text of the signs 0 and 1; false, unless the key is right and of so many bytes.
func textOf(size int, key []byte) (string, bool) {
	if len(key) != size {
		return "", false
	}
	many := new(big.Int)
	for _, b := range slices.Backward(key[:4]) {
		many.Mul(many, big.NewInt(256))
		many.Add(many, big.NewInt(int64(b)))
	}
	var all strings.Builder
	for _, b := range key[4:] {
		for _, worth := range worths {
			all.WriteByte("01"[b/worth%2])
		}
	}
	if many.Cmp(big.NewInt(int64(all.Len()))) > 0 {
		return "", false
	}
	return all.String()[:many.Int64()], true
}

// worths are those of a byte's bits, the highest first.
var worths = [8]byte{128, 64, 32, 16, 8, 4, 2, 1}

// keyOf tells the key of so many bytes with the bits of a text, those that do not count being 0.
func keyOf(size int, text string) []byte {
	return noisy(size, text, 0)
}

// noisy is a key with the bits of a text, and those of noise where none counts.
func noisy(size int, text string, noise byte) []byte {
	key := make([]byte, size)
	key[0], key[1] = byte(len(text)%256), byte(len(text)/256)
	for i := range 8 * (size - 4) {
		if i < len(text) && text[i] == '1' || i >= len(text) && noise&worths[i%8] != 0 {
			key[4+i/8] += worths[i%8]
		}
	}
	return key
}

// both is a trie, and what it must be by the chapter's words: what stands at each place, and the bits of its key.
type both struct {
	t      *testing.T
	x      *trie.Trie
	size   int // of a key
	places []place
}

type place struct {
	value []byte
	taken bool
	text  string
}

func newBoth(t *testing.T, key, value, entries int) *both {
	t.Helper()
	x, e := trie.New(specOf(key, value, entries))
	if x == nil || e != api.OK {
		t.Fatalf("New(%d, %d, %d): %v, %v", key, value, entries, x != nil, e)
	}
	b := &both{t: t, x: x, size: key}
	for range entries {
		b.places = append(b.places, place{value: make([]byte, value)})
	}
	return b
}

// valueSize is how many bytes each place has.
func (x *both) valueSize() int {
	return len(x.places[0].value)
}

// room is how many bits a key may have.
func (x *both) room() int {
	return 8 * (x.size - 4)
}

// where tells the place of the key of a text, and whether there is one.
func (x *both) where(text string) (int, bool) {
	for i, p := range x.places {
		if p.taken && p.text == text {
			return i, true
		}
	}
	return 0, false
}

// longest tells the place of the longest beginning of a text, and whether there is one.
func (x *both) longest(text string) (int, bool) {
	found, there := 0, false
	for i, p := range x.places {
		if p.taken && strings.HasPrefix(text, p.text) && (!there || len(p.text) > len(x.places[found].text)) {
			found, there = i, true
		}
	}
	return found, there
}

// free tells the first place without a key, and whether there is one.
func (x *both) free() (int, bool) {
	for i, p := range x.places {
		if !p.taken {
			return i, true
		}
	}
	return 0, false
}

// there asks whether the trie has a place.
func (x *both) there(place *big.Int) bool {
	return place.Sign() >= 0 && place.Cmp(big.NewInt(int64(len(x.places)))) < 0
}

// fits asks for off and size by numbers without an end.
func (x *both) fits(off, size int) bool {
	sum := new(big.Int).Add(big.NewInt(int64(off)), big.NewInt(int64(size)))
	return off >= 0 && sum.Cmp(big.NewInt(int64(x.valueSize()))) <= 0
}

// handed is a copy of b within other bytes, which tells whether it and they are as they were, and is written over behind the call.
type handed struct {
	all, was []byte
	size     int
}

func handOf(b []byte) *handed {
	all := slices.Concat([]byte("<<<<"), b, []byte(">>>>>>>>"))
	return &handed{all: all, was: bytes.Clone(all), size: len(b)}
}

func (h *handed) bytes() []byte {
	return h.all[4 : 4+h.size]
}

func (h *handed) back(t *testing.T) {
	t.Helper()
	if !bytes.Equal(h.all, h.was) {
		t.Fatalf("the %d bytes that were handed in, or those beside them, were changed", h.size)
	}
	overwrite(h.all)
}

// overwrite leaves nothing of b, nor of what its memory has behind it.
func overwrite(b []byte) {
	b = b[:cap(b)]
	for i := range b {
		b[i] ^= 0x5a
	}
}

func (x *both) lookup(key []byte) (int, api.Errno) {
	x.t.Helper()
	at, want := 0, api.OK
	if text, right := textOf(x.size, key); !right {
		want = api.ErrArg
	} else if n, there := x.longest(text); !there {
		want = api.ErrNone
	} else {
		at = n
	}
	hand := handOf(key)
	n, e := x.x.Lookup(hand.bytes())
	if n != at || e != want {
		x.t.Fatalf("Lookup(%v): %d, %v; want %d, %v", key, n, e, at, want)
	}
	hand.back(x.t)
	return n, e
}

// wantUpdate tells what an update answers, and the place at which the value stands then.
func (x *both) wantUpdate(key, value []byte, flags uint64) (int, api.Errno) {
	text, right := textOf(x.size, key)
	at, there := x.where(text)
	free, room := x.free()
	switch {
	case !right, len(value) != x.valueSize(), flags > 2:
		return 0, api.ErrArg
	case there && flags == 1:
		return 0, api.ErrThere
	case there:
		return at, api.OK
	case flags == 2:
		return 0, api.ErrNone
	case !room:
		return 0, api.ErrFull
	}
	return free, api.OK
}

func (x *both) update(key, value []byte, flags uint64) api.Errno {
	x.t.Helper()
	at, want := x.wantUpdate(key, value, flags)
	if want == api.OK {
		text, _ := textOf(x.size, key)
		x.places[at] = place{value: bytes.Clone(value), taken: true, text: text}
	}
	one, two := handOf(key), handOf(value)
	e := x.x.Update(one.bytes(), two.bytes(), flags)
	if e != want {
		x.t.Fatalf("Update(%v, %d bytes, %d): %v; want %v", key, len(value), flags, e, want)
	}
	one.back(x.t)
	two.back(x.t)
	return e
}

func (x *both) delete(key []byte) api.Errno {
	x.t.Helper()
	want := api.OK
	text, right := textOf(x.size, key)
	at, there := x.where(text)
	switch {
	case !right:
		want = api.ErrArg
	case !there:
		want = api.ErrNone
	default:
		x.places[at].taken = false
		x.places[at].text = ""
	}
	hand := handOf(key)
	e := x.x.Delete(hand.bytes())
	if e != want {
		x.t.Fatalf("Delete(%v): %v; want %v", key, e, want)
	}
	hand.back(x.t)
	return e
}

func (x *both) value(place int) {
	x.t.Helper()
	want, wanted := api.ErrNone, []byte(nil)
	if x.there(big.NewInt(int64(place))) {
		want, wanted = api.OK, x.places[place].value
	}
	b, e := x.x.Value(place)
	if e != want || !bytes.Equal(b, wanted) || e != api.OK && b != nil {
		x.t.Fatalf("Value(%d): %v, %v; want %v, %v", place, b, e, wanted, want)
	}
	overwrite(b)
}

func (x *both) set(place, off int, b []byte) api.Errno {
	x.t.Helper()
	want := api.OK
	switch {
	case !x.there(big.NewInt(int64(place))):
		want = api.ErrNone
	case !x.fits(off, len(b)):
		want = api.ErrBounds
	default:
		for i, c := range b {
			x.places[place].value[off+i] = c
		}
	}
	hand := handOf(b)
	e := x.x.Set(place, off, hand.bytes())
	if e != want {
		x.t.Fatalf("Set(%d, %d, %d bytes): %v; want %v", place, off, len(b), e, want)
	}
	hand.back(x.t)
	return e
}

// texts tells the bits of all keys, in the order in which these are told.
func (x *both) texts() []string {
	var all []string
	for many := 0; many <= x.room(); many++ {
		first := len(all)
		for _, p := range x.places {
			if p.taken && len(p.text) == many {
				all = append(all, p.text)
			}
		}
		slices.Sort(all[first:])
	}
	return all
}

// keys asks for the keys in order. What was told of one is written over before the next one is looked at.
func (x *both) keys() {
	x.t.Helper()
	told, wanted := x.x.Keys(), x.texts()
	if len(told) != len(wanted) {
		x.t.Fatalf("Keys: %v; want %d", told, len(wanted))
	}
	for i, key := range told {
		if want := keyOf(x.size, wanted[i]); !bytes.Equal(key, want) {
			x.t.Fatalf("Keys: %v at %d; want %v", key, i, want)
		}
		overwrite(key)
	}
	clear(told[:cap(told)])
}

// look asks for the values of all places, and of those that are none, and for all keys.
func (x *both) look() {
	x.t.Helper()
	for i := range x.places {
		x.value(i)
	}
	for _, place := range x.noPlaces() {
		x.value(place)
	}
	x.keys()
}

// all asks for the places of all keys, too, and of their neighbours: a bit less, a bit more, the last one turned.
func (x *both) all() {
	x.t.Helper()
	x.look()
	for _, text := range x.texts() {
		for _, other := range neighbours(text, x.room()) {
			x.lookup(noisy(x.size, other, byte(len(text))))
		}
	}
}

// neighbours are a text, and those that differ by one bit, or by all behind one.
func neighbours(text string, room int) []string {
	all := []string{text}
	if many := len(text); many > 0 {
		all = append(all, text[:many-1], turned(text, many-1), turned(text, 0))
	}
	if len(text) < room {
		all = append(all, text+"0", text+"1", text+strings.Repeat("1", room-len(text)), text+strings.Repeat("0", room-len(text)))
	}
	return all
}

// turned is a text with another sign at a place.
func turned(text string, at int) string {
	return text[:at] + map[byte]string{'0': "1", '1': "0"}[text[at]] + text[at+1:]
}

// nth tells texts by numbers: that of no sign, those of one, of two, and so on, as they rise.
func nth(n int) string {
	return new(big.Int).SetInt64(int64(n + 1)).Text(2)[1:]
}

// deep tells texts by numbers below 2048, no two alike, of 11 signs to as many as a key of so many bytes has room for.
func deep(size, n int) string {
	room := 8 * (size - 4)
	start := strings.Repeat("0", 11) + new(big.Int).SetInt64(int64(n)).Text(2)
	more := strings.Repeat(nth(n+5), room)
	return start[len(start)-11:] + more[:n*7%(room-10)]
}

// fill puts so many keys, from the one of a number on, with values of their own.
func (x *both) fill(from, many int) {
	x.t.Helper()
	for n := from; n < from+many; n++ {
		if e := x.update(noisy(x.size, nth(n), byte(37*n)), valueOf(x.valueSize(), n), uint64(n%2)); e != api.OK {
			x.t.Fatalf("key %d: %v", n, e)
		}
	}
}

// noPlaces are below 0 and past the last.
func (x *both) noPlaces() []int {
	n := len(x.places)
	return []int{math.MinInt64, math.MinInt64 + 1, -1 << 32, -1<<32 + 1, -n, -2, -1, n, n + 1, 2 * n, 1024, 1025, 1 << 31, 1 << 32, 1<<32 + 1, 1 << 62, math.MaxInt64 - 1, math.MaxInt64}
}

// valueOf tells bytes that hang on a number, those at both ends alone, too.
func valueOf(size, n int) []byte {
	b := make([]byte, size)
	for i := range b {
		b[i] = byte(i*7 + n*31 + n/256 + 1)
	}
	return b
}

// row is so many bytes, no two of 251 alike, none of them 0.
func row(size int) []byte {
	b := make([]byte, size)
	for i := range b {
		b[i] = byte(i%251 + 1)
	}
	return b
}

// counts are numbers of bits about those that a key of so many bytes has room for, and such as have high bytes.
func counts(size int) []uint32 {
	room := uint32(8 * (size - 4))
	return []uint32{0, 1, 2, 7, 8, 9, 15, 16, 17, room/2 - 1, room / 2, room - 9, room - 8, room - 7, room - 1, room, room + 1, room + 7, room + 8, room + 32, 255, 256, 257, 511, 512, 1 << 16, 1<<16 + 1, 1<<16 + room, 1 << 24, 1<<24 + 8, 1 << 31, 1<<31 + 1, 1<<31 + room, math.MaxUint32 - 7, math.MaxUint32 - 1, math.MaxUint32}
}

// headed is a key of so many bytes that says it has so many bits; the others are those of noise.
func headed(size int, many uint32, noise byte) []byte {
	key := make([]byte, 0, size+4)
	key = append(key, byte(many), byte(many>>8), byte(many>>16), byte(many>>24))
	for i := range max(size-4, 0) {
		key = append(key, noise^byte(i)&1)
	}
	return key[:size]
}

// keys are some of so many bytes, right ones and wrong ones, and such as have less or more bytes.
func keys(size int) [][]byte {
	var all [][]byte
	for _, many := range counts(size) {
		for _, noise := range []byte{0, 255, 0x55, 0xaa, 10} {
			all = append(all, headed(size, many, noise))
		}
		all = append(all, headed(size-1, many, 10), headed(size+1, many, 10))
	}
	for _, many := range []int{0, 1, 2, 3, 4, 5, size - 1, size + 1, size + 4, 2 * size, 37, 64, 256 + size} {
		if many != size {
			all = append(all, make([]byte, many), row(many), headed(many, 8, 10)[:many])
		}
	}
	return append(all, nil, make([]byte, 1<<16+size))
}

// flags are the three that there are, and those beyond.
func flags() []uint64 {
	return []uint64{0, 1, 2, 3, 4, 5, 7, 8, 255, 256, 257, 258, 1 << 31, 1 << 32, 1<<32 + 1, 1<<32 + 2, 1 << 63, 1<<63 + 1, math.MaxUint64 - 1, math.MaxUint64}
}

// edges are places and numbers of bytes about a value of that size, and those at the ends of what a number may be.
func edges(size int) []int {
	return []int{math.MinInt64, math.MinInt64 + 1, math.MinInt64 + size, -1 << 32, -size - 1, -size, -2, -1, 0, 1, 2, size / 2, size - 2, size - 1, size, size + 1, size + 2, 2 * size, 1024, 1025, 1 << 31, 1 << 32, 1<<32 + 1, math.MaxInt64 - size - 1, math.MaxInt64 - size, math.MaxInt64 - size + 1, math.MaxInt64 - 1, math.MaxInt64}
}

func numbers(many int) []int {
	all := make([]int, many)
	for i := range all {
		all[i] = i
	}
	return all
}

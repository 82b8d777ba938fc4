package store_test

import (
	"bytes"
	"math"
	"math/big"
	"slices"
	"testing"

	"hatchway/api"
	"hatchway/array"
	"hatchway/hash"
	"hatchway/lru"
	"hatchway/queue"
	"hatchway/ring"
	"hatchway/store"
	"hatchway/trie"
)

const (
	mostMaps = 32
	mostKind = 8 // of maps, from 1 on
)

// wantSpec tells by the table of chapter 6 what a make's error is.
func wantSpec(s api.MapSpec) api.Errno {
	const most = 1024
	type row struct{ keyLo, keyHi, valueLo, valueHi, entriesLo, entriesHi int }
	table := []row{
		1: {4, 4, 1, most, 1, most},
		2: {1, 64, 1, most, 1, most},
		3: {1, 64, 1, most, 1, most},
		4: {5, 36, 1, most, 1, most},
		5: {0, 0, 1, most, 1, most},
		6: {0, 0, 1, most, 1, most},
		7: {0, 0, 0, 0, 16, 16384},
		8: {4, 4, 8, 8, 1, 64},
	}
	if s.Kind == 0 || int(s.Kind) >= len(table) {
		return api.ErrKind
	}
	r := table[s.Kind]
	switch {
	case s.Key < r.keyLo, s.Key > r.keyHi, s.Value < r.valueLo, s.Value > r.valueHi, s.Entries < r.entriesLo, s.Entries > r.entriesHi:
		return api.ErrArg
	}
	return api.OK
}

// small, least, greatest are right makes of a Kind.
func small(kind int) api.MapSpec {
	return []api.MapSpec{
		1: {Kind: 1, Key: 4, Value: 2, Entries: 3},
		2: {Kind: 2, Key: 1, Value: 2, Entries: 3},
		3: {Kind: 3, Key: 1, Value: 2, Entries: 3},
		4: {Kind: 4, Key: 5, Value: 2, Entries: 3},
		5: {Kind: 5, Value: 2, Entries: 3},
		6: {Kind: 6, Value: 2, Entries: 3},
		7: {Kind: 7, Entries: 40},
		8: {Kind: 8, Key: 4, Value: 8, Entries: 3},
	}[kind]
}

func least(kind int) api.MapSpec {
	return []api.MapSpec{
		1: {Kind: 1, Key: 4, Value: 1, Entries: 1},
		2: {Kind: 2, Key: 1, Value: 1, Entries: 1},
		3: {Kind: 3, Key: 1, Value: 1, Entries: 1},
		4: {Kind: 4, Key: 5, Value: 1, Entries: 1},
		5: {Kind: 5, Value: 1, Entries: 1},
		6: {Kind: 6, Value: 1, Entries: 1},
		7: {Kind: 7, Entries: 16},
		8: {Kind: 8, Key: 4, Value: 8, Entries: 1},
	}[kind]
}

func greatest(kind int) api.MapSpec {
	return []api.MapSpec{
		1: {Kind: 1, Key: 4, Value: 1024, Entries: 1024},
		2: {Kind: 2, Key: 64, Value: 1024, Entries: 1024},
		3: {Kind: 3, Key: 64, Value: 1024, Entries: 1024},
		4: {Kind: 4, Key: 36, Value: 1024, Entries: 1024},
		5: {Kind: 5, Value: 1024, Entries: 1024},
		6: {Kind: 6, Value: 1024, Entries: 1024},
		7: {Kind: 7, Entries: 16384},
		8: {Kind: 8, Key: 4, Value: 8, Entries: 64},
	}[kind]
}

// programs is the make of a MapPrograms of so many places.
func programs(entries int) api.MapSpec {
	return api.MapSpec{Kind: 8, Key: 4, Value: 8, Entries: entries}
}

// The calls of the three sorts of maps, as their chapters have them.
type (
	keyed interface {
		Lookup(key []byte) (int, api.Errno)
		Update(key, value []byte, flags uint64) api.Errno
		Delete(key []byte) api.Errno
		Value(place int) ([]byte, api.Errno)
		Set(place, off int, b []byte) api.Errno
	}
	ordered interface {
		Push(value []byte, flags uint64) api.Errno
		Pop() ([]byte, api.Errno)
		Peek() ([]byte, api.Errno)
	}
	recorded interface {
		Put(b []byte) api.Errno
		Take() ([]byte, api.Errno)
	}
)

// wanted is what a map of a store must be: one of its own chapter, apart from the store. Of keyed, ordered and recorded two are nil.
type wanted struct {
	handle   int
	spec     api.MapSpec
	keyed    keyed
	ordered  ordered
	recorded recorded
}

func wantedOf(t *testing.T, handle int, s api.MapSpec) *wanted {
	t.Helper()
	w, e := &wanted{handle: handle, spec: s}, api.OK
	switch s.Kind {
	case 1:
		w.keyed, e = array.New(s)
	case 2:
		w.keyed, e = hash.New(s)
	case 3:
		w.keyed, e = lru.New(s)
	case 4:
		w.keyed, e = trie.New(s)
	case 5, 6:
		w.ordered, e = queue.New(s)
	case 7:
		w.recorded, e = ring.New(s)
	case 8:
		w.keyed = &wantPrograms{places: make([][8]byte, s.Entries)}
	}
	if e != api.OK {
		t.Fatalf("no map of %+v: %v", s, e)
	}
	return w
}

// wantPrograms is a MapPrograms by the chapter's words.
type wantPrograms struct {
	places [][8]byte
}

// said tells the place that bytes say, of which the last counts most.
func said(key []byte) *big.Int {
	turned := bytes.Clone(key)
	slices.Reverse(turned)
	return new(big.Int).SetBytes(turned)
}

func (w *wantPrograms) there(place *big.Int) bool {
	return place.Sign() >= 0 && place.Cmp(big.NewInt(int64(len(w.places)))) < 0
}

func (w *wantPrograms) empty(place int) bool {
	for _, b := range w.places[place] {
		if b > 0 {
			return false
		}
	}
	return true
}

func (w *wantPrograms) Lookup(key []byte) (int, api.Errno) {
	if len(key) != 4 {
		return 0, api.ErrArg
	}
	if place := said(key); w.there(place) && !w.empty(int(place.Int64())) {
		return int(place.Int64()), api.OK
	}
	return 0, api.ErrNone
}

func (w *wantPrograms) Update(key, value []byte, flags uint64) api.Errno {
	if len(key) != 4 || len(value) != 8 || flags != 0 && flags != 1 && flags != 2 {
		return api.ErrArg
	}
	if !w.there(said(key)) {
		return api.ErrNone
	}
	place := int(said(key).Int64())
	if flags == 1 && !w.empty(place) {
		return api.ErrThere
	}
	if flags == 2 && w.empty(place) {
		return api.ErrNone
	}
	w.places[place] = [8]byte(value)
	return api.OK
}

func (w *wantPrograms) Delete(key []byte) api.Errno {
	place, e := w.Lookup(key)
	if e == api.OK {
		w.places[place] = [8]byte{}
	}
	return e
}

func (w *wantPrograms) Value(place int) ([]byte, api.Errno) {
	if !w.there(big.NewInt(int64(place))) {
		return nil, api.ErrNone
	}
	return bytes.Clone(w.places[place][:]), api.OK
}

func (w *wantPrograms) Set(place, off int, b []byte) api.Errno {
	if !w.there(big.NewInt(int64(place))) {
		return api.ErrNone
	}
	sum := new(big.Int).Add(big.NewInt(int64(off)), big.NewInt(int64(len(b))))
	if off < 0 || sum.Cmp(big.NewInt(8)) > 0 {
		return api.ErrBounds
	}
	for i, c := range b {
		w.places[place][off+i] = c
	}
	return api.OK
}

// both is a store, and what it must be by the chapter's words: the maps, by their handles, and how many handles were given.
type both struct {
	t     *testing.T
	s     *store.Store
	given int
	maps  []*wanted
}

func newBoth(t *testing.T, specs ...api.MapSpec) *both {
	t.Helper()
	s := store.New()
	if s == nil {
		t.Fatal("New: nil")
	}
	x := &both{t: t, s: s}
	for _, spec := range specs {
		x.has(spec)
	}
	return x
}

// ofEach is a store with a small map of each Kind, under its number.
func ofEach(t *testing.T) *both {
	t.Helper()
	x := newBoth(t)
	for kind := 1; kind <= mostKind; kind++ {
		x.has(small(kind))
	}
	return x
}

// at tells what must be under a handle; nil, if nothing.
func (x *both) at(handle int) *wanted {
	for _, w := range x.maps {
		if w.handle == handle {
			return w
		}
	}
	return nil
}

// makes asks for a map, and tells its handle.
func (x *both) makes(spec api.MapSpec) (int, api.Errno) {
	x.t.Helper()
	wantHandle, want := 0, wantSpec(spec)
	if want == api.OK && len(x.maps) == mostMaps {
		want = api.ErrFull
	}
	if want == api.OK {
		x.given++
		wantHandle = x.given
		x.maps = append(x.maps, wantedOf(x.t, wantHandle, spec))
	}
	handle, e := x.s.Make(spec)
	if handle != wantHandle || e != want {
		x.t.Fatalf("Make(%+v), %d maps being there: %d, %v; want %d, %v", spec, len(x.maps), handle, e, wantHandle, want)
	}
	return handle, e
}

// has makes a map that may be.
func (x *both) has(spec api.MapSpec) int {
	x.t.Helper()
	handle, e := x.makes(spec)
	if e != api.OK {
		x.t.Fatalf("Make(%+v): %v", spec, e)
	}
	return handle
}

func (x *both) frees(handle int) api.Errno {
	x.t.Helper()
	want := api.ErrStale
	if x.at(handle) != nil {
		want = api.OK
		x.maps = slices.DeleteFunc(x.maps, func(w *wanted) bool { return w.handle == handle })
	}
	if e := x.s.Free(handle); e != want {
		x.t.Fatalf("Free(%d) of %v: %v; want %v", handle, x.s.Handles(), e, want)
	}
	return want
}

func (x *both) spec(handle int) {
	x.t.Helper()
	want, wantSpec := api.ErrStale, api.MapSpec{}
	if w := x.at(handle); w != nil {
		want, wantSpec = api.OK, w.spec
	}
	if spec, e := x.s.Spec(handle); spec != wantSpec || e != want {
		x.t.Fatalf("Spec(%d): %+v, %v; want %+v, %v", handle, spec, e, wantSpec, want)
	}
}

// handles asks for all handles, and writes over what was told.
func (x *both) handles() {
	x.t.Helper()
	var want []int
	for _, w := range x.maps {
		want = append(want, w.handle)
	}
	told := x.s.Handles()
	if !slices.Equal(told, want) {
		x.t.Fatalf("Handles: %v; want %v", told, want)
	}
	told = told[:cap(told)]
	for i := range told {
		told[i] = -told[i] - 7
	}
}

// handed is a copy of b within other bytes, which tells whether it and they are as they were, and is written over behind the call.
type handed struct {
	all, was []byte
	size     int
}

func handOf(b []byte) *handed {
	all := slices.Concat([]byte("<<<<"), b, []byte(">>>>>>>>"))
	return &handed{all: all, was: bytes.Clone(all), size: len(b)}
}

func (h *handed) bytes() []byte {
	return h.all[4 : 4+h.size]
}

func (h *handed) back(t *testing.T) {
	t.Helper()
	if !bytes.Equal(h.all, h.was) {
		t.Fatalf("the %d bytes that were handed in, or those beside them, were changed", h.size)
	}
	overwrite(h.all)
}

// overwrite leaves nothing of b, nor of what its memory has behind it.
func overwrite(b []byte) {
	b = b[:cap(b)]
	for i := range b {
		b[i] ^= 0x5a
	}
}

// keyedAt, orderedAt, recordedAt tell what must be asked under a handle, or the error that must be told.
func (x *both) keyedAt(handle int) (keyed, api.Errno) {
	switch w := x.at(handle); {
	case w == nil:
		return nil, api.ErrStale
	case w.keyed == nil:
		return nil, api.ErrKind
	default:
		return w.keyed, api.OK
	}
}

func (x *both) orderedAt(handle int) (ordered, api.Errno) {
	switch w := x.at(handle); {
	case w == nil:
		return nil, api.ErrStale
	case w.ordered == nil:
		return nil, api.ErrKind
	default:
		return w.ordered, api.OK
	}
}

func (x *both) recordedAt(handle int) (recorded, api.Errno) {
	switch w := x.at(handle); {
	case w == nil:
		return nil, api.ErrStale
	case w.recorded == nil:
		return nil, api.ErrKind
	default:
		return w.recorded, api.OK
	}
}

func (x *both) lookup(handle int, key []byte) api.Errno {
	x.t.Helper()
	w, want := x.keyedAt(handle)
	wantPlace := 0
	if want == api.OK {
		wantPlace, want = w.Lookup(bytes.Clone(key))
	}
	hand := handOf(key)
	place, e := x.s.Lookup(handle, hand.bytes())
	if place != wantPlace || e != want {
		x.t.Fatalf("Lookup(%d, %v): %d, %v; want %d, %v", handle, key, place, e, wantPlace, want)
	}
	hand.back(x.t)
	return e
}

func (x *both) update(handle int, key, value []byte, flags uint64) api.Errno {
	x.t.Helper()
	w, want := x.keyedAt(handle)
	if want == api.OK {
		want = w.Update(bytes.Clone(key), bytes.Clone(value), flags)
	}
	one, two := handOf(key), handOf(value)
	if e := x.s.Update(handle, one.bytes(), two.bytes(), flags); e != want {
		x.t.Fatalf("Update(%d, %v, %d bytes, %d): %v; want %v", handle, key, len(value), flags, e, want)
	}
	one.back(x.t)
	two.back(x.t)
	return want
}

func (x *both) delete(handle int, key []byte) api.Errno {
	x.t.Helper()
	w, want := x.keyedAt(handle)
	if want == api.OK {
		want = w.Delete(bytes.Clone(key))
	}
	hand := handOf(key)
	if e := x.s.Delete(handle, hand.bytes()); e != want {
		x.t.Fatalf("Delete(%d, %v): %v; want %v", handle, key, e, want)
	}
	hand.back(x.t)
	return want
}

// same holds bytes that were told against those that must be, and writes over them.
func (x *both) same(call string, handle int, b []byte, e api.Errno, wanted []byte, want api.Errno) {
	x.t.Helper()
	if e != want || !bytes.Equal(b, wanted) || e != api.OK && b != nil {
		x.t.Fatalf("%s(%d): %v, %v; want %v, %v", call, handle, b, e, wanted, want)
	}
	overwrite(b)
}

func (x *both) value(handle, place int) api.Errno {
	x.t.Helper()
	w, want := x.keyedAt(handle)
	var wanted []byte
	if want == api.OK {
		wanted, want = w.Value(place)
	}
	b, e := x.s.Value(handle, place)
	x.same("Value", handle, b, e, wanted, want)
	return e
}

func (x *both) set(handle, place, off int, b []byte) api.Errno {
	x.t.Helper()
	w, want := x.keyedAt(handle)
	if want == api.OK {
		want = w.Set(place, off, bytes.Clone(b))
	}
	hand := handOf(b)
	if e := x.s.Set(handle, place, off, hand.bytes()); e != want {
		x.t.Fatalf("Set(%d, %d, %d, %d bytes): %v; want %v", handle, place, off, len(b), e, want)
	}
	hand.back(x.t)
	return want
}

func (x *both) push(handle int, value []byte, flags uint64) api.Errno {
	x.t.Helper()
	w, want := x.orderedAt(handle)
	if want == api.OK {
		want = w.Push(bytes.Clone(value), flags)
	}
	hand := handOf(value)
	if e := x.s.Push(handle, hand.bytes(), flags); e != want {
		x.t.Fatalf("Push(%d, %d bytes, %d): %v; want %v", handle, len(value), flags, e, want)
	}
	hand.back(x.t)
	return want
}

func (x *both) pop(handle int) api.Errno {
	x.t.Helper()
	w, want := x.orderedAt(handle)
	var wanted []byte
	if want == api.OK {
		wanted, want = w.Pop()
	}
	b, e := x.s.Pop(handle)
	x.same("Pop", handle, b, e, wanted, want)
	return e
}

func (x *both) peek(handle int) api.Errno {
	x.t.Helper()
	w, want := x.orderedAt(handle)
	var wanted []byte
	if want == api.OK {
		wanted, want = w.Peek()
	}
	b, e := x.s.Peek(handle)
	x.same("Peek", handle, b, e, wanted, want)
	return e
}

func (x *both) put(handle int, b []byte) api.Errno {
	x.t.Helper()
	w, want := x.recordedAt(handle)
	if want == api.OK {
		want = w.Put(bytes.Clone(b))
	}
	hand := handOf(b)
	if e := x.s.Put(handle, hand.bytes()); e != want {
		x.t.Fatalf("Put(%d, %d bytes): %v; want %v", handle, len(b), e, want)
	}
	hand.back(x.t)
	return want
}

func (x *both) take(handle int) api.Errno {
	x.t.Helper()
	w, want := x.recordedAt(handle)
	var wanted []byte
	if want == api.OK {
		wanted, want = w.Take()
	}
	b, e := x.s.Take(handle)
	x.same("Take", handle, b, e, wanted, want)
	return e
}

// look asks for all that tells something and changes nothing, of all maps: handles, makes, the values of all places, the next values of those in order.
func (x *both) look() {
	x.t.Helper()
	x.handles()
	for _, w := range x.maps {
		x.spec(w.handle)
		if w.keyed != nil {
			for place := range w.spec.Entries {
				x.value(w.handle, place)
			}
			x.value(w.handle, w.spec.Entries)
		}
		if w.ordered != nil {
			x.peek(w.handle)
		}
	}
}

// drain asks all maps for all that they have, also for what only a change tells: who is the eldest, what is behind the next one, how much room is left.
func (x *both) drain() {
	x.t.Helper()
	x.look()
	for _, w := range x.maps {
		switch {
		case w.keyed != nil:
			x.drainKeys(w)
		case w.ordered != nil:
			for x.pop(w.handle) == api.OK {
			}
		case w.recorded != nil:
			for x.put(w.handle, []byte{9}) == api.OK {
			}
			for x.take(w.handle) == api.OK {
			}
		}
	}
	x.look()
}

func (x *both) drainKeys(w *wanted) {
	x.t.Helper()
	const many = 12
	if w.spec.Kind != 3 {
		// Of an lru a key that is looked up is the youngest then.
		x.keys(w, many)
	}
	for n := range min(w.spec.Entries, many) {
		x.update(w.handle, keyOf(w.spec, 100+n), valueOf(w.spec.Value, n), api.FlagAny)
		for m := range n {
			x.value(w.handle, m)
		}
	}
	x.keys(w, many)
	for n := range many {
		x.delete(w.handle, keyOf(w.spec, n))
	}
}

// keys looks up the keys of the first so many numbers.
func (x *both) keys(w *wanted, many int) {
	x.t.Helper()
	for n := range many {
		x.lookup(w.handle, keyOf(w.spec, n))
	}
}

// keyOf tells the key of a number that is of the right size for a make; of a trie one of 0 to 8 bits, which is right.
func keyOf(s api.MapSpec, n int) []byte {
	if s.Kind == 4 {
		key := make([]byte, s.Key)
		key[0], key[4] = byte((n+3)%9), byte(n*73)
		return key
	}
	return numbered(s.Key, n)
}

// numbered tells the bytes of a number, the lowest first.
func numbered(size, n int) []byte {
	b := make([]byte, size)
	for i := range b {
		b[i], n = byte(n%256), n/256
	}
	return b
}

// valueOf tells bytes that hang on a number, of which none is 0, if they are few and it is small.
func valueOf(size, n int) []byte {
	b := make([]byte, size)
	for i := range b {
		b[i] = byte(i*7 + n*31 + n/256 + 1)
	}
	return b
}

// flags are the three that there are, and those beyond.
func flags() []uint64 {
	return []uint64{0, 1, 2, 3, 4, 5, 7, 8, 255, 256, 257, 258, 1 << 31, 1 << 32, 1<<32 + 1, 1<<32 + 2, 1 << 63, 1<<63 + 1, math.MaxUint64 - 1, math.MaxUint64}
}

// edges are places and numbers of bytes about one of that size, and those at the ends of what a number may be.
func edges(size int) []int {
	return []int{math.MinInt64, math.MinInt64 + 1, math.MinInt64 + size, -1 << 32, -size - 1, -size, -2, -1, 0, 1, 2, size / 2, size - 2, size - 1, size, size + 1, size + 2, 2 * size, 1024, 1025, 1 << 31, 1 << 32, 1<<32 + 1, math.MaxInt64 - size - 1, math.MaxInt64 - size, math.MaxInt64 - size + 1, math.MaxInt64 - 1, math.MaxInt64}
}

// noHandles are such as no map has that was made as one of the first so many.
func noHandles(given int) []int {
	return []int{math.MinInt64, math.MinInt64 + 1, -1 << 32, -1<<32 + 1, -given - 1, -given, -2, -1, 0, given + 1, given + 2, 2*given + 1, 33 + given, 1024 + given, 1 << 31, 1 << 32, 1<<32 + 1, 1<<32 + 2, 1<<62 + 1, math.MaxInt64 - 1, math.MaxInt64}
}

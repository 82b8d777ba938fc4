package store_test

import (
	"math"
	"slices"
	"testing"

	"hatchway/api"
	"hatchway/kinds"
	"hatchway/store"
)

// The whole of what callers lean on.
var _ interface {
	Make(m api.MapSpec) (int, api.Errno)
	Spec(handle int) (api.MapSpec, api.Errno)
	Free(handle int) api.Errno
	Lookup(handle int, key []byte) (int, api.Errno)
	Update(handle int, key, value []byte, flags uint64) api.Errno
	Delete(handle int, key []byte) api.Errno
	Value(handle, place int) ([]byte, api.Errno)
	Set(handle, place, off int, b []byte) api.Errno
	Push(handle int, value []byte, flags uint64) api.Errno
	Pop(handle int) ([]byte, api.Errno)
	Peek(handle int) ([]byte, api.Errno)
	Put(handle int, b []byte) api.Errno
	Take(handle int) ([]byte, api.Errno)
	Handles() []int
} = new(store.Store)

// answer is what a call told: its error, and whether it told anything else.
type answer struct {
	call string
	err  api.Errno
	more bool
}

// askedByKeys, askedInOrder and askedOfRecords ask for all that is of one sort of maps.
func askedByKeys(s *store.Store, handle int, key, value []byte, n int, flags uint64) []answer {
	place, e := s.Lookup(handle, key)
	all := []answer{{"Lookup", e, place != 0}}
	all = append(all, answer{"Update", s.Update(handle, key, value, flags), false})
	all = append(all, answer{"Delete", s.Delete(handle, key), false})
	b, e := s.Value(handle, n)
	all = append(all, answer{"Value", e, b != nil})
	return append(all, answer{"Set", s.Set(handle, n, n, value), false})
}

func askedInOrder(s *store.Store, handle int, value []byte, flags uint64) []answer {
	all := []answer{{"Push", s.Push(handle, value, flags), false}}
	b, e := s.Peek(handle)
	all = append(all, answer{"Peek", e, b != nil})
	b, e = s.Pop(handle)
	return append(all, answer{"Pop", e, b != nil})
}

func askedOfRecords(s *store.Store, handle int, value []byte) []answer {
	all := []answer{{"Put", s.Put(handle, value), false}}
	b, e := s.Take(handle)
	return append(all, answer{"Take", e, b != nil})
}

// asked asks for all that a handle is given to.
func asked(s *store.Store, handle int, key, value []byte, n int, flags uint64) []answer {
	spec, e := s.Spec(handle)
	all := []answer{{"Spec", e, spec != api.MapSpec{}}}
	all = append(all, answer{"Free", s.Free(handle), false})
	all = append(all, askedByKeys(s, handle, key, value, n, flags)...)
	all = append(all, askedInOrder(s, handle, value, flags)...)
	return append(all, askedOfRecords(s, handle, value)...)
}

// given are arguments of all sorts, right for some map and for none.
func given(call func(key, value []byte, n int, flags uint64)) {
	for _, key := range [][]byte{nil, {}, {7}, {0, 0, 0, 0}, {1, 0, 0, 0}, {0, 0, 0, 0, 0}, {3, 0, 0, 0, 160}, make([]byte, 65)} {
		for _, value := range [][]byte{nil, {}, {1}, {1, 2}, {1, 2, 3, 4, 5, 6, 7, 8}, make([]byte, 8), make([]byte, 1025), make([]byte, api.MaxRecord+1)} {
			for _, n := range []int{math.MinInt64, -1, 0, 1, math.MaxInt64} {
				for _, flags := range []uint64{0, 1, 2, 3, math.MaxUint64} {
					call(key, value, n, flags)
				}
			}
		}
	}
}

func checkEach(t *testing.T, name string, all []answer, want api.Errno) {
	t.Helper()
	for _, a := range all {
		if a.err != want || a.more {
			t.Fatalf("%s: %s: %v, and told more: %v; want %v", name, a.call, a.err, a.more, want)
		}
	}
}

// A store without maps: no handle is one.
func TestP16_1New(t *testing.T) {
	x := newBoth(t)
	x.look()
	if told := x.s.Handles(); len(told) != 0 {
		t.Errorf("Handles: %v", told)
	}
	for _, handle := range append(noHandles(0), 1, 2, 31, 32, 33) {
		given(func(key, value []byte, n int, flags uint64) {
			checkEach(t, "of no maps", asked(x.s, handle, key, value, n, flags), api.ErrStale)
		})
	}
	x.look()
	if store.New() == store.New() {
		t.Error("New told one store twice")
	}
}

func TestP16_1Example(t *testing.T) {
	s := store.New()
	a, e := s.Make(api.MapSpec{Kind: api.MapArray, Key: 4, Value: 1, Entries: 1})
	b, f := s.Make(api.MapSpec{Kind: api.MapQueue, Value: 1, Entries: 1})
	if a != 1 || e != api.OK || b != 2 || f != api.OK {
		t.Fatalf("%d, %v, %d, %v", a, e, b, f)
	}
	if e := s.Push(1, []byte{1}, 0); e != api.ErrKind {
		t.Errorf("Push of 1: %v", e)
	}
	if e := s.Push(2, []byte{1}, 0); e != api.OK {
		t.Errorf("Push of 2: %v", e)
	}
	if e := s.Push(3, []byte{1}, 0); e != api.ErrStale {
		t.Errorf("Push of 3: %v", e)
	}
	if e := s.Free(1); e != api.OK {
		t.Errorf("Free: %v", e)
	}
	if c, e := s.Make(api.MapSpec{Kind: api.MapRing, Entries: 16}); c != 3 || e != api.OK || !slices.Equal(s.Handles(), []int{2, 3}) {
		t.Errorf("%d, %v, %v", c, e, s.Handles())
	}
}

// Each Kind that a byte can be, with parts that are right for some of them, and such as are right for none.
func TestP16_1MakeKinds(t *testing.T) {
	x := newBoth(t)
	full := newBoth(t)
	for len(full.maps) < mostMaps {
		full.has(least(1 + len(full.maps)%mostKind))
	}
	made := 0
	for kind := range 256 {
		for _, key := range []int{math.MinInt64, -1, 0, 1, 4, 5, 36, 37, 64, 65, 1<<32 + 4, math.MaxInt64} {
			for _, value := range []int{math.MinInt64, -1, 0, 1, 7, 8, 9, 1024, 1025, 1<<32 + 8, math.MaxInt64} {
				for _, entries := range []int{math.MinInt64, -1, 0, 1, 15, 16, 64, 65, 1024, 1025, 16384, 16385, 1<<32 + 16, math.MaxInt64} {
					spec := api.MapSpec{Kind: api.MapKind(kind), Key: key, Value: value, Entries: entries}
					if own, want := kinds.Spec(spec), wantSpec(spec); own != want {
						t.Fatalf("kinds tells %v of %+v; want %v", own, spec, want)
					}
					handle, e := x.makes(spec)
					if e == api.OK {
						made++
						x.spec(handle)
						x.frees(handle)
					}
					full.makes(spec)
				}
			}
		}
	}
	if made == 0 || x.given != made {
		t.Errorf("%d maps were made, %d handles given", made, x.given)
	}
	x.handles()
	full.look()
}

// Which of several errors comes first.
func TestP16_1MakeFirstError(t *testing.T) {
	var none *store.Store
	x := newBoth(t)
	for range mostMaps {
		x.has(least(7))
	}
	for _, c := range []struct {
		spec            api.MapSpec
		of, inFull, any api.Errno
	}{
		{api.MapSpec{}, 9, 9, 1}, {api.MapSpec{Kind: 9}, 9, 9, 1}, {api.MapSpec{Kind: 255, Key: 4, Value: 8, Entries: 16}, 9, 9, 1},
		{api.MapSpec{Kind: 1}, 2, 2, 1}, {api.MapSpec{Kind: 7, Entries: 15}, 2, 2, 1}, {api.MapSpec{Kind: 8, Key: 4, Value: 8, Entries: 65}, 2, 2, 1},
		{small(1), 0, 8, 1}, {small(7), 0, 8, 1}, {small(8), 0, 8, 1},
	} {
		if h, e := store.New().Make(c.spec); e != c.of || (h == 1) != (e == api.OK) {
			t.Errorf("Make(%+v): %d, %v; want %v", c.spec, h, e, c.of)
		}
		if h, e := x.s.Make(c.spec); h != 0 || e != c.inFull {
			t.Errorf("of a full store: Make(%+v): %d, %v; want %v", c.spec, h, e, c.inFull)
		}
		if h, e := none.Make(c.spec); h != 0 || e != c.any {
			t.Errorf("of none: Make(%+v): %d, %v; want %v", c.spec, h, e, c.any)
		}
	}
	x.look()
}

// Stores of none up to as many maps as may be, of each Kind; one more is refused, as often as it is asked for.
func TestP16_1Full(t *testing.T) {
	for first := 1; first <= mostKind; first++ {
		x := newBoth(t)
		for n := range mostMaps {
			x.handles()
			if handle := x.has(least(1 + (first+n)%mostKind)); handle != n+1 {
				t.Fatalf("the map %d is under %d", n+1, handle)
			}
		}
		for kind := 1; kind <= mostKind; kind++ {
			for _, spec := range []api.MapSpec{least(kind), small(kind), greatest(kind)} {
				if _, e := x.makes(spec); e != api.ErrFull {
					t.Fatalf("one more: %v", e)
				}
				x.handles()
			}
		}
		x.drain()
	}
	for kind := 1; kind <= mostKind; kind++ {
		x := newBoth(t)
		for range mostMaps {
			x.has(small(kind))
		}
		if _, e := x.makes(small(kind)); e != api.ErrFull {
			t.Fatalf("one more: %v", e)
		}
		x.drain()
	}
}

// In a full store a map is freed and another one made, over and over, each map in its turn; then one more is refused again.
func TestP16_1FullByTurns(t *testing.T) {
	x := newBoth(t)
	for n := range mostMaps {
		x.has(small(1 + n%mostKind))
	}
	for turn := range 400 {
		gone := x.maps[turn*7%mostMaps].handle
		x.frees(gone)
		x.handles()
		if _, e := x.makes(api.MapSpec{Kind: 9}); e != api.ErrKind {
			t.Fatalf("a map of no Kind: %v", e)
		}
		if handle := x.has(small(1 + turn%mostKind)); handle != mostMaps+turn+1 {
			t.Fatalf("behind %d turns the next handle is %d", turn, handle)
		}
		if _, e := x.makes(small(1 + turn%mostKind)); e != api.ErrFull {
			t.Fatalf("one more: %v", e)
		}
		if e := x.frees(gone); e != api.ErrStale {
			t.Fatalf("%d freed twice: %v", gone, e)
		}
		x.look()
	}
	for len(x.maps) > 0 {
		x.frees(x.maps[len(x.maps)/2].handle)
		x.look()
	}
	for n := range mostMaps {
		if handle := x.has(small(1)); handle != mostMaps+400+n+1 {
			t.Fatalf("%d", handle)
		}
	}
	x.drain()
}

// Each Kind's make is told as it was, at its least, its greatest, and between.
func TestP16_1Spec(t *testing.T) {
	x := newBoth(t)
	for kind := 1; kind <= mostKind; kind++ {
		x.has(least(kind))
		x.has(small(kind))
		x.has(greatest(kind))
	}
	x.has(api.MapSpec{Kind: 2, Key: 63, Value: 1023, Entries: 17})
	x.has(api.MapSpec{Kind: 3, Key: 17, Value: 3, Entries: 1023})
	x.has(api.MapSpec{Kind: 7, Entries: 12345})
	for range 3 {
		for handle := 1; handle <= x.given; handle++ {
			x.spec(handle)
		}
		x.handles()
	}
	for handle := 1; handle <= x.given; handle += 2 {
		x.frees(handle)
	}
	for handle := -1; handle <= x.given+1; handle++ {
		x.spec(handle)
	}
}

// Handles under which there is no map: below 1, of no map yet, of those that were freed, and far beyond.
func TestP16_1NoHandles(t *testing.T) {
	x := ofEach(t)
	x.has(small(1))
	x.has(small(5))
	x.frees(3)
	x.frees(7)
	x.frees(10)
	fill(x)
	for _, handle := range append(noHandles(x.given), 3, 7, 10) {
		if slices.Contains(x.s.Handles(), handle) {
			t.Fatalf("%d is a handle", handle)
		}
		given(func(key, value []byte, n int, flags uint64) {
			checkEach(t, "no handle", asked(x.s, handle, key, value, n, flags), api.ErrStale)
		})
		x.frees(handle)
		x.spec(handle)
	}
	x.drain()
}

// Maps are freed in each order, with others made and refused between; no handle comes twice.
func TestP16_1FreeInEachOrder(t *testing.T) {
	const many = 5
	var each func(order []int, left []int)
	each = func(order, left []int) {
		for i, handle := range left {
			each(append(slices.Clone(order), handle), append(slices.Clone(left[:i]), left[i+1:]...))
		}
		if len(left) > 0 {
			return
		}
		for between := range many + 1 {
			x := newBoth(t)
			for n := range many {
				x.has(small(1 + n))
			}
			for n, handle := range order {
				if n == between {
					x.has(small(8))
				}
				x.frees(handle)
				x.look()
				x.makes(api.MapSpec{Kind: 1})
			}
			x.has(small(7))
			x.drain()
		}
	}
	each(nil, []int{1, 2, 3, 4, 5})
}

// All rows of six calls that make, refuse and free.
func TestP16_1EachRowOfCalls(t *testing.T) {
	const calls, long = 6, 6
	rows := 1
	for range long {
		rows *= calls
	}
	for row := range rows {
		x := newBoth(t)
		for i, n := 0, row; i < long; i, n = i+1, n/calls {
			switch n % calls {
			case 0:
				x.makes(least(1 + i))
			case 1:
				x.makes(api.MapSpec{Kind: 9, Key: 4, Value: 8, Entries: 16})
			case 2:
				x.frees(1)
			case 3:
				x.frees(2)
			case 4:
				x.frees(x.given)
			case 5:
				x.frees(x.given + 1)
			}
			x.handles()
			for handle := range x.given + 2 {
				x.spec(handle)
			}
		}
	}
}

// What New did not answer is no store.
func TestP16_1NoStore(t *testing.T) {
	x := ofEach(t)
	fill(x)
	copied := *x.s
	stores := make([]store.Store, 2)
	for name, s := range map[string]*store.Store{"nil": nil, "zero": {}, "new": new(store.Store), "of a slice": &stores[1], "a copy": &copied} {
		for kind := 0; kind <= mostKind+1; kind++ {
			spec := api.MapSpec{Kind: api.MapKind(kind)}
			if kind > 0 && kind <= mostKind {
				spec = small(kind)
			}
			if handle, e := s.Make(spec); handle != 0 || e != api.ErrNil {
				t.Errorf("%s: Make: %d, %v", name, handle, e)
			}
		}
		if told := s.Handles(); told != nil {
			t.Errorf("%s: Handles: %v", name, told)
		}
		for _, handle := range append(noHandles(8), 1, 2, 3, 4, 5, 6, 7, 8) {
			given(func(key, value []byte, n int, flags uint64) {
				checkEach(t, name, asked(s, handle, key, value, n, flags), api.ErrNil)
			})
		}
		x.look()
	}
	x.drain()
}

// fill puts something into each map.
func fill(x *both) {
	x.t.Helper()
	for _, w := range x.maps {
		for n := range 3 {
			switch {
			case w.keyed != nil:
				x.update(w.handle, keyOf(w.spec, n), valueOf(w.spec.Value, w.handle+n), uint64(n%2))
			case w.ordered != nil:
				x.push(w.handle, valueOf(w.spec.Value, w.handle+n), 0)
			case w.recorded != nil:
				x.put(w.handle, valueOf(n, w.handle+n))
			}
		}
	}
}

// Each call of each Kind that it is not for is ErrKind, whatever else is wrong, and changes nothing.
func TestP16_2OtherKinds(t *testing.T) {
	x := ofEach(t)
	fill(x)
	for _, w := range x.maps {
		given(func(key, value []byte, n int, flags uint64) {
			if w.keyed == nil {
				checkEach(t, "not by keys", askedByKeys(x.s, w.handle, key, value, n, flags), api.ErrKind)
			}
			if w.ordered == nil {
				checkEach(t, "not in order", askedInOrder(x.s, w.handle, value, flags), api.ErrKind)
			}
			if w.recorded == nil {
				checkEach(t, "not of records", askedOfRecords(x.s, w.handle, value), api.ErrKind)
			}
		})
		x.look()
	}
	x.drain()
}

// By the numbers of the Kinds: which calls each one has.
func TestP16_2WhichCalls(t *testing.T) {
	for kind := 1; kind <= mostKind; kind++ {
		x := newBoth(t, small(kind))
		byKeys := kind <= 4 || kind == 8
		for _, a := range askedByKeys(x.s, 1, nil, nil, 0, 0) {
			if (a.err != api.ErrKind) != byKeys && !(kind == 1 && a.call == "Delete") {
				t.Errorf("Kind %d: %s: %v", kind, a.call, a.err)
			}
		}
		for _, a := range askedInOrder(x.s, 1, nil, 0) {
			if (a.err != api.ErrKind) != (kind == 5 || kind == 6) {
				t.Errorf("Kind %d: %s: %v", kind, a.call, a.err)
			}
		}
		for _, a := range askedOfRecords(x.s, 1, nil) {
			if (a.err != api.ErrKind) != (kind == 7) {
				t.Errorf("Kind %d: %s: %v", kind, a.call, a.err)
			}
		}
	}
}

// byKeys are the Kinds of maps by keys.
func byKeys() []int {
	return []int{1, 2, 3, 4, 8}
}

// keysFor are keys that are right for a make, and such as have less or more bytes, or are of places that there are not.
func keysFor(s api.MapSpec) [][]byte {
	var all [][]byte
	for _, n := range []int{0, 1, 2, 3, 4, 7, 10, 63, 64, 65, 127, 128, 255, 256, 257, 1023, 1024, 1 << 16, 1 << 24, 1<<24 + 1, 1 << 31, 1<<32 - 1} {
		all = append(all, keyOf(s, n))
	}
	for n := range s.Key + 4 {
		all = append(all, make([]byte, n), valueOf(n, 3))
	}
	return append(all, nil, numbered(s.Key+256, 1))
}

// valuesFor are values of as many bytes as a make says, and of less and more.
func valuesFor(s api.MapSpec) [][]byte {
	return [][]byte{valueOf(s.Value, 5), make([]byte, s.Value), nil, {}, valueOf(s.Value-1, 1), valueOf(s.Value+1, 2), valueOf(s.Value+256, 3)}
}

// Each map by keys tells what its own chapter's call tells: keys, values and flags, right and wrong, of keys that are there and that are not.
func TestP16_2Calls(t *testing.T) {
	for _, kind := range byKeys() {
		for _, spec := range []api.MapSpec{least(kind), small(kind)} {
			x := newBoth(t, small(7), spec, spec)
			for turn := range 3 {
				for _, key := range keysFor(spec) {
					x.lookup(2, key)
					for _, value := range valuesFor(spec) {
						for _, flags := range flags() {
							x.update(2, key, value, flags)
							if turn == 1 {
								x.lookup(2, key)
							}
						}
					}
					if turn == 2 {
						x.delete(2, key)
						x.delete(2, key)
					}
				}
				x.look()
			}
			x.drain()
		}
	}
}

// Values are told and set at places below 0, past the last, at a value's end, past it, below 0, none at all, and at numbers whose sum is more than an int64 holds.
func TestP16_2ValueAndSet(t *testing.T) {
	for _, kind := range byKeys() {
		for _, spec := range []api.MapSpec{least(kind), small(kind), {Kind: api.MapKind(kind), Key: small(kind).Key, Value: 8, Entries: 5}} {
			x := newBoth(t, spec, spec)
			fill(x)
			for _, place := range edges(spec.Entries) {
				x.value(2, place)
				for _, off := range edges(spec.Value) {
					for _, size := range []int{0, 1, 2, spec.Value - 1, spec.Value, spec.Value + 1, spec.Value + 256} {
						x.set(2, place, off, valueOf(size, off))
					}
				}
				x.set(2, place, 0, nil)
				x.look()
			}
			x.drain()
		}
	}
}

// As many places, keys and bytes as may be.
func TestP16_2Greatest(t *testing.T) {
	for _, kind := range byKeys() {
		spec := greatest(kind)
		x := newBoth(t, spec, small(kind))
		for n := range spec.Entries + 2 {
			x.update(1, keyOf(spec, n), valueOf(spec.Value, n), api.FlagAny)
			x.lookup(1, keyOf(spec, n/2))
		}
		for n := range spec.Entries {
			x.value(1, n)
			x.set(1, n, spec.Value-1, []byte{byte(n)})
			x.value(1, n)
		}
		x.delete(1, keyOf(spec, spec.Entries-1))
		x.drain()
	}
}

// byHand is a store whose map 1 is a MapPrograms of two places.
type byHand struct {
	t *testing.T
	s *store.Store
}

func newByHand(t *testing.T) byHand {
	t.Helper()
	s := store.New()
	if handle, e := s.Make(programs(2)); handle != 1 || e != api.OK {
		t.Fatalf("Make: %d, %v", handle, e)
	}
	return byHand{t, s}
}

func (x byHand) lookup(key string, want int, err api.Errno) {
	x.t.Helper()
	if place, e := x.s.Lookup(1, []byte(key)); place != want || e != err {
		x.t.Errorf("Lookup(%q): %d, %v; want %d, %v", key, place, e, want, err)
	}
}

func (x byHand) update(key, value string, flags uint64, err api.Errno) {
	x.t.Helper()
	if e := x.s.Update(1, []byte(key), []byte(value), flags); e != err {
		x.t.Errorf("Update(%q, %q, %d): %v; want %v", key, value, flags, e, err)
	}
}

func (x byHand) remove(key string, err api.Errno) {
	x.t.Helper()
	if e := x.s.Delete(1, []byte(key)); e != err {
		x.t.Errorf("Delete(%q): %v; want %v", key, e, err)
	}
}

func (x byHand) set(place, off int, b string, err api.Errno) {
	x.t.Helper()
	if e := x.s.Set(1, place, off, []byte(b)); e != err {
		x.t.Errorf("Set(%d, %d, %q): %v; want %v", place, off, b, e, err)
	}
}

func (x byHand) stands(place int, want string, err api.Errno) {
	x.t.Helper()
	if b, e := x.s.Value(1, place); string(b) != want || e != err {
		x.t.Errorf("Value(%d): %q, %v; want %q, %v", place, b, e, want, err)
	}
}

// Keys of places of a MapPrograms of two, the first one that there is not, one that only its high byte puts past the last; and values.
const (
	zero  = "\x00\x00\x00\x00"
	one   = "\x01\x00\x00\x00"
	two   = "\x02\x00\x00\x00"
	high  = "\x00\x00\x00\x01"
	empty = "\x00\x00\x00\x00\x00\x00\x00\x00"
	seven = "\x09\x00\x00\x00\x00\x00\x00\x07"
)

// By hand: a MapPrograms whose places are empty, as all are at first.
func TestP16_2ProgramsEmptyByHand(t *testing.T) {
	x := newByHand(t)
	for _, key := range []string{zero, one, two, high} {
		x.lookup(key, 0, api.ErrNone)
		x.remove(key, api.ErrNone)
		x.update(key, seven, 2, api.ErrNone)
	}
	for _, key := range []string{"", zero[:3], zero + "\x00"} {
		x.lookup(key, 0, api.ErrArg)
		x.remove(key, api.ErrArg)
		x.update(key, seven, 0, api.ErrArg)
	}
	for _, key := range []string{one, two, high, one[:3]} {
		x.update(key, seven[:7], 0, api.ErrArg)
		x.update(key, seven+"\x00", 0, api.ErrArg)
		x.update(key, seven, 3, api.ErrArg)
	}
	x.update(two, seven, 0, api.ErrNone)
	x.update(two, seven, 1, api.ErrNone)
	x.update(high, seven, 1, api.ErrNone)
	x.stands(0, empty, api.OK)
	x.stands(1, empty, api.OK)
	x.stands(2, "", api.ErrNone)
	x.stands(-1, "", api.ErrNone)
}

// By hand: what is updated and deleted; noughts leave a place empty.
func TestP16_2ProgramsUpdateByHand(t *testing.T) {
	x := newByHand(t)
	x.update(one, seven, 1, api.OK)
	x.lookup(one, 1, api.OK)
	x.lookup(zero, 0, api.ErrNone)
	x.update(one, empty, 1, api.ErrThere)
	x.stands(1, seven, api.OK)
	x.update(one, empty, 2, api.OK)
	x.lookup(one, 0, api.ErrNone)
	x.update(one, seven, 2, api.ErrNone)
	x.update(one, empty, 1, api.OK)
	x.update(one, empty, 1, api.OK)
	x.update(one, empty, 0, api.OK)
	x.remove(one, api.ErrNone)
	x.update(one, seven, 0, api.OK)
	x.remove(one, api.OK)
	x.stands(1, empty, api.OK)
	x.remove(one, api.ErrNone)
}

// By hand: Set fills a place, and makes it empty, byte by byte.
func TestP16_2ProgramsSetByHand(t *testing.T) {
	x := newByHand(t)
	x.set(0, 3, "\x05", api.OK)
	x.lookup(zero, 0, api.OK)
	x.update(zero, seven, 1, api.ErrThere)
	x.stands(0, "\x00\x00\x00\x05\x00\x00\x00\x00", api.OK)
	x.set(0, 3, "\x00", api.OK)
	x.lookup(zero, 0, api.ErrNone)
	x.set(0, 0, seven, api.OK)
	x.set(0, 0, empty[:7], api.OK)
	x.lookup(zero, 0, api.OK)
	x.set(0, 7, "\x00", api.OK)
	x.update(zero, seven, 2, api.ErrNone)
	x.set(0, 1, seven, api.ErrBounds)
	x.set(0, 8, "a", api.ErrBounds)
	x.set(0, -1, "", api.ErrBounds)
	x.set(0, 8, "", api.OK)
	x.set(2, 0, seven, api.ErrNone)
	x.set(-1, 0, "", api.ErrNone)
	x.set(2, -1, seven, api.ErrNone)
	x.lookup(zero, 0, api.ErrNone)
	x.lookup(one, 0, api.ErrNone)
}

// programSizes are numbers of places of a MapPrograms: as few and as many as may be, and some between.
func programSizes() []int {
	return []int{1, 2, 3, 7, 8, 9, 31, 63, 64}
}

// Places of as few and of as many as may be, by keys of no bytes up to six: the last place, one past it, and such as only their high bytes put past it.
func TestP16_2ProgramsKeys(t *testing.T) {
	value := []byte{1, 2, 3, 4, 5, 6, 7, 8}
	for _, entries := range programSizes() {
		x := newBoth(t, programs(entries), programs(entries))
		for place := range entries + 2 {
			for size := range 7 {
				key := numbered(size, place)
				for _, flags := range []uint64{2, 1, 2, 1, 0} {
					x.lookup(2, key)
					x.update(2, key, value, flags)
				}
				x.lookup(2, key)
				x.delete(2, key)
				x.lookup(2, key)
				x.delete(2, key)
				x.update(2, key, value, 0)
			}
			for _, high := range []int{1 << 8, 1 << 15, 1 << 16, 1 << 23, 1 << 24, 1 << 31, 0xff << 24, 0xffffff << 8} {
				key := numbered(4, place+high)
				x.lookup(2, key)
				x.update(2, key, value, 0)
				x.update(2, key, value, 1)
				x.update(2, key, value, 2)
				x.delete(2, key)
			}
			x.look()
		}
		x.drain()
	}
}

// Values of no bytes up to seventeen, with each flags, at places that are empty, that are not, and that there are not.
func TestP16_2ProgramsValues(t *testing.T) {
	for _, entries := range []int{1, 2, 64} {
		x := newBoth(t, programs(entries))
		for _, key := range [][]byte{numbered(4, 0), numbered(4, entries-1), numbered(4, entries), numbered(4, 1<<24), numbered(3, 0), numbered(5, 0), nil} {
			for _, before := range [][]byte{make([]byte, 8), valueOf(8, 1)} {
				for size := range 18 {
					for _, flags := range flags() {
						for _, value := range [][]byte{make([]byte, size), valueOf(size, 2)} {
							x.update(1, key, before, 0)
							x.update(1, key, value, flags)
							x.lookup(1, key)
							x.value(1, 0)
							x.value(1, entries-1)
						}
					}
				}
			}
		}
		x.drain()
	}
}

// A place is empty if all its bytes are noughts: with each one bit set it is not, whether an update or Set put it there.
func TestP16_2ProgramsEachBit(t *testing.T) {
	x := newBoth(t, programs(3))
	key, noughts := numbered(4, 1), make([]byte, 8)
	for bit := range 64 {
		value := make([]byte, 8)
		value[bit/8] = 1 << (bit % 8)
		x.update(1, key, value, 1)
		if e := x.lookup(1, key); e != api.OK {
			t.Fatalf("%d: %v", bit, e)
		}
		x.update(1, key, value, 1)
		x.update(1, key, value, 2)
		x.update(1, key, noughts, 2)
		x.lookup(1, key)
		x.delete(1, key)
		x.set(1, 1, bit/8, value[bit/8:bit/8+1])
		if e := x.lookup(1, key); e != api.OK {
			t.Fatalf("%d: %v", bit, e)
		}
		x.update(1, key, value, 1)
		x.set(1, 1, bit/8, noughts[:1])
		if e := x.lookup(1, key); e != api.ErrNone {
			t.Fatalf("%d: %v", bit, e)
		}
		x.update(1, key, value, 2)
		x.set(1, 1, 0, value)
		x.delete(1, key)
		x.look()
	}
	x.drain()
}

// All rows of five calls on a MapPrograms of two places.
func TestP16_2ProgramsEachRowOfCalls(t *testing.T) {
	value, noughts := []byte{0, 0, 0, 0, 0, 0, 0, 1}, make([]byte, 8)
	const calls, long = 9, 5
	rows := 1
	for range long {
		rows *= calls
	}
	for row := range rows {
		x := newBoth(t, programs(2))
		for i, n := 0, row; i < long; i, n = i+1, n/calls {
			value[0] = byte(i)
			switch n % calls {
			case 0, 1, 2:
				x.update(1, numbered(4, 0), value, uint64(n%calls))
			case 3, 4:
				x.update(1, numbered(4, 0), noughts, uint64(n%calls-2))
			case 5:
				x.delete(1, numbered(4, 0))
			case 6:
				x.set(1, 0, 7, noughts[:1])
			case 7:
				x.set(1, 0, 0, value[:1])
			case 8:
				x.update(1, numbered(4, 1), value, 1)
			}
			x.lookup(1, numbered(4, 0))
			x.lookup(1, numbered(4, 1))
			x.value(1, 0)
			x.value(1, 1)
		}
	}
}

// Each map in order tells what its own chapter's call tells: values and flags, right and wrong, with room and without.
func TestP16_3InOrder(t *testing.T) {
	for _, kind := range []int{5, 6} {
		for _, spec := range []api.MapSpec{least(kind), small(kind), {Kind: api.MapKind(kind), Value: 8, Entries: 5}} {
			x := newBoth(t, small(1), spec, spec)
			for turn := range 3 {
				x.peek(2)
				x.pop(2)
				for _, value := range valuesFor(spec) {
					for _, flags := range flags() {
						x.push(2, value, flags)
						x.peek(2)
						if turn == 1 {
							x.pop(2)
						}
					}
				}
				for n := range 2 * spec.Entries {
					x.push(2, valueOf(spec.Value, n+turn), uint64(turn%2*2))
				}
				x.pop(2)
			}
			x.drain()
			x.pop(2)
			x.peek(2)
		}
		x := newBoth(t, greatest(kind))
		for n := range 1026 {
			x.push(1, valueOf(1024, n), 0)
		}
		x.push(1, valueOf(1024, 2000), 2)
		x.drain()
	}
}

// By hand: of a MapQueue the eldest value is told, of a MapStack the youngest.
func TestP16_3InOrderByHand(t *testing.T) {
	s := store.New()
	s.Make(api.MapSpec{Kind: 5, Value: 1, Entries: 2})
	s.Make(api.MapSpec{Kind: 6, Value: 1, Entries: 2})
	for handle, want := range map[int]string{1: "bc", 2: "cb"} {
		for i, e := range []api.Errno{s.Push(handle, []byte("a"), 0), s.Push(handle, []byte("b"), 2), s.Push(handle, []byte("c"), 0), s.Push(handle, []byte("c"), 1), s.Push(handle, []byte("cc"), 2), s.Push(handle, []byte("c"), 2)} {
			if e != []api.Errno{0, 0, 8, 2, 2, 0}[i] {
				t.Errorf("%d: Push %d: %v", handle, i, e)
			}
		}
		for _, c := range []byte(want) {
			b, e := s.Peek(handle)
			d, f := s.Pop(handle)
			if string(b) != string(c) || e != api.OK || string(d) != string(c) || f != api.OK {
				t.Errorf("%d: %q, %v, %q, %v; want %q", handle, b, e, d, f, c)
			}
		}
		if b, e := s.Pop(handle); b != nil || e != api.ErrNone {
			t.Errorf("%d: Pop: %v, %v", handle, b, e)
		}
	}
}

// A MapRing tells what its own chapter's call tells: records of no bytes, of as many as there is room for, of more, and of more than may be.
func TestP16_3OfRecords(t *testing.T) {
	for _, entries := range []int{16, 17, 40, 1000, 16383, 16384} {
		x := newBoth(t, small(5), api.MapSpec{Kind: 7, Entries: entries}, small(7))
		x.take(2)
		for _, size := range []int{0, 1, 7, 8, 9, entries - 9, entries - 8, entries - 7, entries, api.MaxRecord - 8, api.MaxRecord, api.MaxRecord + 1, api.MaxRecord + 8} {
			x.put(2, valueOf(size, size))
			x.put(2, nil)
			x.put(2, valueOf(size, 1))
			for x.take(2) == api.OK {
			}
		}
		for n := range 3000 {
			x.put(2, valueOf(n%23, n))
			if n%3 == 0 {
				x.take(2)
			}
		}
		x.drain()
	}
}

// By hand: records are told in the order in which they were put, those without bytes, too.
func TestP16_3OfRecordsByHand(t *testing.T) {
	s := store.New()
	s.Make(api.MapSpec{Kind: 7, Entries: 20})
	for i, e := range []api.Errno{s.Put(1, []byte("ab")), s.Put(1, []byte("abc")), s.Put(1, nil), s.Put(1, make([]byte, api.MaxRecord+1))} {
		if e != []api.Errno{0, 8, 0, 3}[i] {
			t.Errorf("Put %d: %v", i, e)
		}
	}
	for i, want := range []string{"ab", ""} {
		if b, e := s.Take(1); string(b) != want || e != api.OK {
			t.Errorf("Take %d: %q, %v", i, b, e)
		}
	}
	if b, e := s.Take(1); b != nil || e != api.ErrNone {
		t.Errorf("Take: %v, %v", b, e)
	}
}

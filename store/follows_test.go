package store_test

import (
	"bytes"
	"math"
	"math/rand"
	"runtime"
	"slices"
	"strconv"
	"testing"

	"hatchway/api"
	"hatchway/store"
)

// change is a call that may change a map, by the map's sort.
func (x *both) change(w *wanted, n int) {
	x.t.Helper()
	key, value := keyOf(w.spec, n%7), valueOf(w.spec.Value, n)
	switch {
	case w.keyed != nil && n%5 == 0:
		x.delete(w.handle, key)
	case w.keyed != nil && n%5 == 1:
		x.lookup(w.handle, key)
	case w.keyed != nil && n%5 == 2:
		x.set(w.handle, n%w.spec.Entries, n%w.spec.Value, []byte{byte(n)})
	case w.keyed != nil:
		x.update(w.handle, key, value, uint64(n%3))
	case w.ordered != nil && n%3 == 0:
		x.pop(w.handle)
	case w.ordered != nil:
		x.push(w.handle, value, uint64(n%3))
	case w.recorded != nil && n%3 == 0:
		x.take(w.handle)
	case w.recorded != nil:
		x.put(w.handle, valueOf(n%11, n))
	}
}

// Of two maps of each two Kinds, and of the same one, what is done to one changes the other one not at all.
func TestP16_4TwoMaps(t *testing.T) {
	for a := 1; a <= mostKind; a++ {
		for b := 1; b <= mostKind; b++ {
			for done := range 2 {
				x := newBoth(t, small(a), small(b))
				fill(x)
				for n := range 60 {
					x.change(x.maps[done], n)
					x.look()
				}
				x.drain()
			}
		}
	}
}

// What is done to one of many maps of one Kind changes no other one, whichever it is.
func TestP16_4OneOfMany(t *testing.T) {
	for kind := 1; kind <= mostKind; kind++ {
		x := newBoth(t)
		for range mostMaps {
			x.has(small(kind))
		}
		fill(x)
		for n := range 200 {
			x.change(x.maps[n*5%mostMaps], n)
			if n%20 == 0 {
				x.look()
			}
		}
		x.drain()
	}
}

// A map that is freed is gone with all that it had: one that is made of the same make behind it has nothing of it, and all others stay.
func TestP16_4FreedIsGone(t *testing.T) {
	for kind := 1; kind <= mostKind; kind++ {
		for other := 1; other <= mostKind; other++ {
			x := newBoth(t, small(other), small(kind), small(other), small(kind))
			fill(x)
			x.frees(2)
			x.look()
			handle := x.has(small(kind))
			x.look()
			x.frees(4)
			x.look()
			if handle != 5 || !slices.Equal(x.s.Handles(), []int{1, 3, 5}) {
				t.Fatalf("%d, %v", handle, x.s.Handles())
			}
			checkEach(t, "freed", asked(x.s, 2, []byte{1, 0, 0, 0}, []byte{1, 2}, 0, 0), api.ErrStale)
			checkEach(t, "freed", asked(x.s, 4, []byte{1, 0, 0, 0}, []byte{1, 2}, 0, 0), api.ErrStale)
			x.drain()
		}
	}
}

// A handle that was freed is no other map's, however many are made behind it.
func TestP16_4HandlesAreNeverGivenAgain(t *testing.T) {
	x := newBoth(t)
	seen := map[int]bool{}
	for turn := range 3000 {
		if len(x.maps) == mostMaps || turn%3 == 2 && len(x.maps) > 0 {
			x.frees(x.maps[turn*13%len(x.maps)].handle)
		}
		handle, e := x.makes([]api.MapSpec{least(1 + turn%mostKind), {Kind: 200}, least(7), {Kind: 7}}[turn%4])
		if e != api.OK {
			continue
		}
		if seen[handle] {
			t.Fatalf("%d was given twice", handle)
		}
		seen[handle] = true
		x.handles()
	}
	for handle := range x.given + 2 {
		x.spec(handle)
	}
	x.drain()
}

// Stores are apart: what is made, freed and done in one is not in another one.
func TestP16_4StoresApart(t *testing.T) {
	x, y := ofEach(t), newBoth(t)
	y.look()
	fill(x)
	y.look()
	for kind := mostKind; kind > 0; kind-- {
		y.has(small(kind))
	}
	x.frees(1)
	x.frees(8)
	for n := range 400 {
		x.change(x.maps[n%len(x.maps)], n)
		if n%3 == 0 {
			y.change(y.maps[n*5%len(y.maps)], n+1)
		}
	}
	y.frees(4)
	x.look()
	y.look()
	x.has(small(2))
	y.drain()
	x.drain()
}

// What may not be changes nothing, of no map: all that there is is told behind it.
func TestP16_4NothingChanges(t *testing.T) {
	x := ofEach(t)
	for len(x.maps) < mostMaps {
		x.has(small(1 + len(x.maps)%mostKind))
	}
	fill(x)
	for _, w := range x.maps[:mostKind] {
		x.makes(w.spec)
		x.makes(api.MapSpec{Kind: w.spec.Kind, Key: -1})
		for _, handle := range noHandles(mostMaps) {
			x.frees(handle)
			x.update(handle, keyOf(w.spec, 1), valueOf(w.spec.Value, 9), 0)
			x.delete(handle, keyOf(w.spec, 1))
			x.set(handle, 0, 0, []byte{77})
			x.push(handle, valueOf(w.spec.Value, 9), 2)
			x.pop(handle)
			x.put(handle, nil)
			x.take(handle)
		}
		switch {
		case w.keyed != nil:
			x.update(w.handle, keyOf(w.spec, 0), valueOf(w.spec.Value, 8), 1)
			x.update(w.handle, keyOf(w.spec, 200), valueOf(w.spec.Value, 8), 2)
			x.update(w.handle, keyOf(w.spec, 0), valueOf(w.spec.Value, 8), 3)
			x.update(w.handle, keyOf(w.spec, 0), valueOf(w.spec.Value+1, 8), 0)
			x.update(w.handle, nil, valueOf(w.spec.Value, 8), 0)
			x.delete(w.handle, keyOf(w.spec, 200))
			x.delete(w.handle, nil)
			x.set(w.handle, w.spec.Entries, 0, []byte{77})
			x.set(w.handle, 0, w.spec.Value, []byte{77})
			x.set(w.handle, 0, math.MaxInt64, []byte{77})
			x.set(w.handle, 0, -1, []byte{77})
		case w.ordered != nil:
			x.push(w.handle, valueOf(w.spec.Value, 8), 0)
			x.push(w.handle, valueOf(w.spec.Value, 8), 1)
			x.push(w.handle, valueOf(w.spec.Value+1, 8), 2)
		case w.recorded != nil:
			x.put(w.handle, make([]byte, 40))
			x.put(w.handle, make([]byte, api.MaxRecord+1))
		}
		x.look()
	}
	x.drain()
}

// What is handed in is not kept, and what was told stays as it was, whatever is done behind it; two that were told lie apart.
func TestP16_4ToldApart(t *testing.T) {
	for kind := 1; kind <= mostKind; kind++ {
		s := store.New()
		spec := small(kind)
		s.Make(spec)
		key, value := keyOf(spec, 1), valueOf(spec.Value, 1)
		var first, second []byte
		switch {
		case kind <= 4 || kind == 8:
			s.Update(1, key, value, 0)
			place, e := s.Lookup(1, key)
			overwrite(key)
			overwrite(value)
			first, _ = s.Value(1, place)
			second, _ = s.Value(1, place)
			s.Set(1, place, 0, valueOf(spec.Value, 3))
			if again, f := s.Lookup(1, keyOf(spec, 1)); e != api.OK || f != api.OK || again != place {
				t.Fatalf("Kind %d: %d, %v, %d, %v", kind, place, e, again, f)
			}
		case kind <= 6:
			s.Push(1, value, 0)
			overwrite(value)
			first, _ = s.Peek(1)
			second, _ = s.Pop(1)
			s.Push(1, valueOf(spec.Value, 3), 0)
		default:
			value = valueOf(2, 1)
			s.Put(1, value)
			s.Put(1, value)
			overwrite(value)
			first, _ = s.Take(1)
			second, _ = s.Take(1)
			s.Put(1, valueOf(2, 3))
		}
		want := valueOf(max(spec.Value, 2), 1)
		if !bytes.Equal(first, want) || !bytes.Equal(second, want) {
			t.Fatalf("Kind %d: %v, %v; want %v", kind, first, second, want)
		}
		overwrite(first)
		if !bytes.Equal(second, want) {
			t.Fatalf("Kind %d: what was told twice lies together", kind)
		}
	}
}

// Handles that were told stay as they were; what is written over them, or put behind them, changes none that is told later.
func TestP16_4HandlesToldApart(t *testing.T) {
	x := ofEach(t)
	first, second := x.s.Handles(), x.s.Handles()
	want := []int{1, 2, 3, 4, 5, 6, 7, 8}
	_ = append(first, 99)
	first[0], first[7] = -5, 77
	x.handles()
	if !slices.Equal(second, want) {
		t.Fatalf("%v", second)
	}
	x.has(small(1))
	x.frees(1)
	x.frees(5)
	x.handles()
	if !slices.Equal(second, want) {
		t.Fatalf("%v", second)
	}
	slices.Reverse(second)
	clear(second[:cap(second)])
	x.handles()
	x.drain()
}

// heap tells how many bytes are in use.
func heap() int {
	runtime.GC()
	var m runtime.MemStats
	runtime.ReadMemStats(&m)
	return int(m.HeapAlloc)
}

// Of maps that were freed, or refused, nothing is kept: a million bytes each.
func TestP16_4NothingIsKeptOfWhatWent(t *testing.T) {
	const million, some = 1 << 20, 1 << 19
	s := store.New()
	before := heap()
	check := func(what string, maps int) {
		t.Helper()
		if more := heap() - before; more > maps*(million+some/8)+some {
			t.Errorf("%s: %d bytes more", what, more)
		}
		runtime.KeepAlive(s)
	}
	free := func(handles ...int) {
		t.Helper()
		for _, handle := range handles {
			if e := s.Free(handle); e != api.OK {
				t.Fatalf("Free(%d): %v", handle, e)
			}
		}
	}
	made := func(many int) {
		t.Helper()
		for n := range many {
			if _, e := s.Make(greatest(1 + n%4)); e != api.OK {
				t.Fatal(e)
			}
		}
	}
	made(mostMaps)
	if more := heap() - before; more < mostMaps*million {
		t.Fatalf("full: %d bytes more", more)
	}
	check("full", mostMaps)
	for range 100 {
		s.Make(greatest(1))
	}
	check("full, and more refused", mostMaps)
	free(32, 31)
	check("the last ones freed", mostMaps-2)
	free(1, 2, 3)
	check("the first ones freed", mostMaps-5)
	made(5)
	check("full anew", mostMaps)
	free(s.Handles()[1:]...)
	check("one left", 1)
	free(s.Handles()...)
	check("none left", 0)
	for range 20 {
		made(3)
		free(s.Handles()[1:]...)
		free(s.Handles()...)
	}
	check("made and freed by turns", 0)
	runtime.KeepAlive(s)
}

// What is asked of maps alone, and of a store alike, is told alike each time.
func TestP16_4AskedAlike(t *testing.T) {
	var rows [2][]string
	for i := range rows {
		draw := rand.New(rand.NewSource(16))
		s := store.New()
		tell := func(n int, e api.Errno, b []byte) {
			rows[i] = append(rows[i], strconv.Itoa(n)+e.Error()+string(b))
		}
		for range 4000 {
			handle, n := 1+draw.Intn(40), draw.Intn(5)
			key := numbered(1+draw.Intn(5), n)
			switch draw.Intn(9) {
			case 0:
				made, e := s.Make(small(1 + draw.Intn(mostKind)))
				tell(made, e, nil)
			case 1:
				spec, e := s.Spec(handle)
				tell(spec.Entries, e, nil)
			case 2:
				place, e := s.Lookup(handle, key)
				tell(place, e, nil)
			case 3:
				tell(0, s.Update(handle, key, valueOf(2, n), uint64(n%3)), nil)
			case 4:
				b, e := s.Value(handle, n)
				tell(0, e, b)
			case 5:
				tell(0, s.Push(handle, valueOf(2, n), 2), nil)
			case 6:
				b, e := s.Pop(handle)
				tell(0, e, b)
			case 7:
				if n == 0 {
					tell(0, s.Free(handle), nil)
				}
			case 8:
				told := s.Handles()
				tell(len(told), 0, []byte{byte(len(told))})
			}
		}
	}
	if !slices.Equal(rows[0], rows[1]) {
		t.Error("two stores that were asked alike do not tell alike")
	}
}

// drawnSpec is a make of any Kind, mostly right.
func drawnSpec(draw *rand.Rand) api.MapSpec {
	if draw.Intn(10) == 0 {
		return api.MapSpec{Kind: api.MapKind(draw.Intn(12)), Key: draw.Intn(6), Value: draw.Intn(10), Entries: draw.Intn(20)}
	}
	kind := 1 + draw.Intn(mostKind)
	spec := small(kind)
	spec.Entries = least(kind).Entries + draw.Intn(5)
	switch kind {
	case 2, 3:
		spec.Key = 1 + draw.Intn(4)
		fallthrough
	case 1, 4, 5, 6:
		spec.Value = 1 + draw.Intn(5)
	case 7:
		spec.Entries += draw.Intn(40)
	}
	return spec
}

// drawnCall does anything to the map under a handle, be there one or not.
func (x *both) drawnCall(draw *rand.Rand, handle int) {
	x.t.Helper()
	spec := small(1 + draw.Intn(mostKind))
	if w := x.at(handle); w != nil && draw.Intn(10) > 0 {
		spec = w.spec
	}
	size := spec.Value
	if draw.Intn(12) == 0 {
		size = draw.Intn(10)
	}
	key, value, flags := keyOf(spec, draw.Intn(8)), valueOf(size, draw.Intn(1000)), uint64(draw.Intn(4))
	if draw.Intn(6) == 0 {
		clear(value)
	}
	w := x.at(handle)
	sort := draw.Intn(3)
	switch {
	case w == nil || draw.Intn(8) == 0:
	case w.keyed != nil:
		sort = 0
	case w.ordered != nil:
		sort = 1
	case w.recorded != nil:
		sort = 2
	}
	switch 10*sort + draw.Intn(6) {
	case 0:
		x.lookup(handle, key)
	case 1, 2:
		x.update(handle, key, value, flags)
	case 3:
		x.delete(handle, key)
	case 4:
		x.value(handle, draw.Intn(8)-1)
	case 5:
		x.set(handle, draw.Intn(8)-1, draw.Intn(10)-1, value[:draw.Intn(len(value)+1)])
	case 10, 11, 12:
		x.push(handle, value, flags)
	case 13, 14:
		x.pop(handle)
	case 15:
		x.peek(handle)
	case 20, 21, 22:
		x.put(handle, valueOf(draw.Intn(20), draw.Intn(1000)))
	default:
		x.take(handle)
	}
}

// Calls in any order, of any map, held against the chapters' words behind each.
func TestP16_4Drawn(t *testing.T) {
	draw := rand.New(rand.NewSource(1616))
	for range 120 {
		x := newBoth(t)
		makes := 1 + draw.Intn(30)
		for range 1000 {
			switch n := draw.Intn(200); {
			case n < makes:
				x.makes(drawnSpec(draw))
				x.handles()
			case n < makes+2 && len(x.maps) > 0:
				x.frees(x.maps[draw.Intn(len(x.maps))].handle)
				x.handles()
			case n < makes+4:
				x.frees(draw.Intn(x.given+3) - 1)
			case n < makes+6:
				x.look()
			case n < makes+10 || len(x.maps) == 0:
				x.drawnCall(draw, draw.Intn(x.given+3)-1)
			default:
				x.drawnCall(draw, x.maps[draw.Intn(len(x.maps))].handle)
			}
		}
		x.drain()
	}
}

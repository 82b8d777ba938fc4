package hash_test

import (
	"bytes"
	"math"
	"math/rand"
	"slices"
	"testing"

	"hatchway/api"
	"hatchway/hash"
	"hatchway/kinds"
)

// The whole of what callers lean on.
var _ interface {
	Lookup(key []byte) (int, api.Errno)
	Update(key, value []byte, flags uint64) api.Errno
	Delete(key []byte) api.Errno
	Value(place int) ([]byte, api.Errno)
	Set(place, off int, b []byte) api.Errno
	Keys() [][]byte
} = new(hash.Hash)

// sorts are hashes by the bytes of a key, of a value, and the places: one of each, as many of each as may be, and some between.
func sorts() [][3]int {
	return [][3]int{{1, 1, 1}, {1, 1, 2}, {64, 1, 1}, {1, 1024, 1}, {1, 1, 256}, {2, 1, 1024}, {64, 1024, 1024}, {2, 3, 7}, {4, 8, 16}, {8, 2, 300}, {63, 1023, 3}, {33, 255, 5}}
}

func checkKeys(t *testing.T, h *hash.Hash, want string) {
	t.Helper()
	if got := string(bytes.Join(h.Keys(), []byte(" "))); got != want {
		t.Errorf("Keys: %q; want %q", got, want)
	}
}

func TestP11_1Example(t *testing.T) {
	h, e := hash.New(api.MapSpec{Kind: api.MapHash, Key: 1, Value: 1, Entries: 2})
	if h == nil || e != api.OK {
		t.Fatalf("New: %v, %v", h, e)
	}
	checkKeys(t, h, "")
	if e := h.Update([]byte("b"), []byte("x"), 0); e != api.OK {
		t.Errorf("Update(b, x, 0): %v", e)
	}
	if e := h.Update([]byte("a"), []byte("y"), 0); e != api.OK {
		t.Errorf("Update(a, y, 0): %v", e)
	}
	if n, e := h.Lookup([]byte("a")); n != 1 || e != api.OK {
		t.Errorf("Lookup(a): %d, %v", n, e)
	}
	checkKeys(t, h, "a b")
	if e := h.Update([]byte("c"), []byte("z"), 0); e != api.ErrFull {
		t.Errorf("Update(c, z, 0): %v", e)
	}
	if e := h.Delete([]byte("b")); e != api.OK {
		t.Errorf("Delete(b): %v", e)
	}
	if e := h.Update([]byte("c"), []byte("z"), 1); e != api.OK {
		t.Errorf("Update(c, z, 1): %v", e)
	}
	if n, e := h.Lookup([]byte("c")); n != 0 || e != api.OK {
		t.Errorf("Lookup(c): %d, %v", n, e)
	}
	if e := h.Update([]byte("b"), []byte("z"), 2); e != api.ErrNone {
		t.Errorf("Update(b, z, 2): %v", e)
	}
	checkKeys(t, h, "a c")
	for place, want := range []string{"z", "y"} {
		if b, e := h.Value(place); string(b) != want || e != api.OK {
			t.Errorf("Value(%d): %q, %v", place, b, e)
		}
	}
}

func checkNew(t *testing.T, s api.MapSpec) *hash.Hash {
	t.Helper()
	want := wantNew(s)
	h, e := hash.New(s)
	if e != want || (h != nil) != (want == api.OK) {
		t.Fatalf("New(%+v): %v, %v; want %v", s, h != nil, e, want)
	}
	if own := kinds.Spec(s); own != api.OK && e != own {
		t.Fatalf("New(%+v): %v; kinds tells %v", s, e, own)
	}
	return h
}

// Each Kind that a byte can be, with parts that are right for some of them, and such as are right for none.
func TestP11_1Kinds(t *testing.T) {
	made := 0
	for kind := range 256 {
		for _, key := range []int{-1, 0, 1, 4, 5, 36, 64, 65, 1 << 32, 1<<32 + 4, math.MinInt64, math.MaxInt64} {
			for _, value := range []int{-1, 0, 1, 8, 1025, 1<<32 + 1, math.MinInt64} {
				for _, entries := range []int{-1, 0, 1, 16, 64, 1025, 16384, 1<<32 + 1, math.MaxInt64} {
					if checkNew(t, api.MapSpec{Kind: api.MapKind(kind), Key: key, Value: value, Entries: entries}) != nil {
						made++
					}
				}
			}
		}
	}
	if made != 5*2*3 {
		t.Errorf("%d hashes were made", made)
	}
}

// Each number of keys, of bytes of one, and of bytes of a value.
func TestP11_1Parts(t *testing.T) {
	for n := -3; n <= 1030; n++ {
		checkNew(t, specOf(n, 1, 1))
		checkNew(t, specOf(1, n, 1))
		checkNew(t, specOf(1, 1, n))
		checkNew(t, specOf(64, n, 2))
		checkNew(t, api.MapSpec{Kind: 3, Key: n, Value: 1, Entries: 1})
		checkNew(t, api.MapSpec{Kind: 4, Key: n, Value: 1, Entries: 1})
	}
}

func TestP11_1FirstError(t *testing.T) {
	for _, x := range []struct {
		s api.MapSpec
		e api.Errno
	}{
		{api.MapSpec{}, 9}, {api.MapSpec{Kind: 9}, 9}, {api.MapSpec{Kind: 255, Key: 4, Value: 1, Entries: 1}, 9}, {api.MapSpec{Key: 4, Value: 1, Entries: 1}, 9},
		{api.MapSpec{Kind: 2}, 2}, {specOf(1, 1, 0), 2}, {specOf(1, 0, 1), 2}, {specOf(0, 1, 1), 2}, {specOf(1, 1, 1025), 2}, {specOf(1, 1025, 1), 2}, {specOf(65, 1, 1), 2}, {specOf(1, 1, -1), 2}, {specOf(1, -1, 1), 2}, {specOf(-1, 1, 1), 2},
		{api.MapSpec{Kind: 1}, 2}, {api.MapSpec{Kind: 1, Key: 5, Value: 1, Entries: 1}, 2}, {api.MapSpec{Kind: 3}, 2}, {api.MapSpec{Kind: 3, Key: 65, Value: 1, Entries: 1}, 2}, {api.MapSpec{Kind: 4, Key: 4, Value: 1, Entries: 1}, 2}, {api.MapSpec{Kind: 5, Key: 4, Value: 1, Entries: 1}, 2}, {api.MapSpec{Kind: 7, Key: 4, Value: 1, Entries: 1}, 2}, {api.MapSpec{Kind: 8, Key: 4, Value: 1, Entries: 1}, 2},
		{api.MapSpec{Kind: 1, Key: 4, Value: 1, Entries: 1}, 9}, {api.MapSpec{Kind: 3, Key: 4, Value: 1, Entries: 1}, 9}, {api.MapSpec{Kind: 4, Key: 5, Value: 1, Entries: 1}, 9}, {api.MapSpec{Kind: 5, Value: 1, Entries: 1}, 9}, {api.MapSpec{Kind: 6, Value: 1, Entries: 1}, 9}, {api.MapSpec{Kind: 7, Entries: 16}, 9}, {api.MapSpec{Kind: 8, Key: 4, Value: 8, Entries: 1}, 9},
		{specOf(1, 1, 1), 0}, {specOf(64, 1024, 1024), 0},
	} {
		if h, e := hash.New(x.s); e != x.e || (h != nil) != (e == api.OK) {
			t.Errorf("New(%+v): %v, %v; want %v", x.s, h != nil, e, x.e)
		}
	}
}

// As many places as the make says, of as many bytes, noughts all of them, and no key.
func TestP11_1Noughts(t *testing.T) {
	for _, sort := range sorts() {
		x := newBoth(t, sort[0], sort[1], sort[2])
		x.all()
		for _, key := range keys(sort[0]) {
			x.lookup(key)
			x.delete(key)
			x.update(key, row(sort[1]), 2)
		}
		x.all()
	}
	for n := 1; n <= 1024; n += 11 {
		newBoth(t, 1+n%64, n, 1+n%3).all()
		newBoth(t, 1+n%64, 1+n%5, n).all()
	}
}

// checkNothing asks a hash that is not there for everything, right or wrong.
func checkNothing(t *testing.T, name string, h *hash.Hash) {
	t.Helper()
	values := [][]byte{nil, row(1), row(4), row(5)}
	for _, key := range append(keys(2), []byte("ab"), []byte{}) {
		if n, e := h.Lookup(key); n != 0 || e != api.ErrNil {
			t.Errorf("%s: Lookup(%v): %d, %v", name, key, n, e)
		}
		if e := h.Delete(key); e != api.ErrNil {
			t.Errorf("%s: Delete(%v): %v", name, key, e)
		}
		for _, value := range values {
			for _, flag := range flags() {
				if e := h.Update(key, value, flag); e != api.ErrNil {
					t.Errorf("%s: Update(%v, %v, %d): %v", name, key, value, flag, e)
				}
			}
		}
	}
	for _, place := range edges(3) {
		if b, e := h.Value(place); b != nil || e != api.ErrNil {
			t.Errorf("%s: Value(%d): %v, %v", name, place, b, e)
		}
		for _, off := range edges(4) {
			for _, b := range values {
				if e := h.Set(place, off, b); e != api.ErrNil {
					t.Errorf("%s: Set(%d, %d, %v): %v", name, place, off, b, e)
				}
			}
		}
	}
	if keys := h.Keys(); len(keys) != 0 {
		t.Errorf("%s: Keys: %v", name, keys)
	}
}

// What New did not answer is no hash.
func TestP11_1NoHash(t *testing.T) {
	var none *hash.Hash
	checkNothing(t, "nil", none)
	checkNothing(t, "zero", &hash.Hash{})
	checkNothing(t, "new", new(hash.Hash))
	hashes := make([]hash.Hash, 2)
	checkNothing(t, "of a slice", &hashes[1])
	x := newBoth(t, 2, 4, 3)
	x.update([]byte("ab"), []byte("abcd"), 0)
	copied := *x.h
	checkNothing(t, "a copy", &copied)
	x.all()
	x.set(2, 1, []byte("xy"))
	x.update([]byte("cd"), []byte("wxyz"), 0)
	checkNothing(t, "a copy", &copied)
	x.all()
}

// Keys of each number of bytes: only those of Key bytes are asked for, the others are wrong, those that are there with a byte less or more, too.
func TestP11_2KeyLengths(t *testing.T) {
	for size := 1; size <= 64; size++ {
		x := newBoth(t, size, 1, 3)
		there := row(200)[:size]
		x.update(there, []byte{1}, 0)
		x.update(make([]byte, size), []byte{2}, 0)
		seen := map[api.Errno]int{}
		for length := range 200 {
			for _, key := range [][]byte{row(200)[:length], make([]byte, length), slices.Repeat([]byte{255}, length)} {
				seen[x.lookup(key)]++
				x.update(key, []byte{3}, 2)
				if length != size {
					seen[x.update(key, []byte{4}, 0)]++
					seen[x.update(key, []byte{4}, 1)]++
					seen[x.delete(key)]++
				}
			}
		}
		x.all()
		if seen[api.OK] != 2 || seen[api.ErrNone] != 1 || seen[api.ErrArg] != 4*3*199 {
			t.Errorf("of keys of %d bytes: %v", size, seen)
		}
	}
}

// Each bit of each byte of a key counts.
func TestP11_2EachBit(t *testing.T) {
	for _, size := range []int{1, 2, 7, 8, 9, 31, 32, 33, 63, 64} {
		x := newBoth(t, size, 2, 8*size+1)
		one := func(bit int) []byte {
			key := make([]byte, size)
			if bit > 0 {
				key[(bit-1)/8] = 1 << ((bit - 1) % 8)
			}
			return key
		}
		for bit := range 8*size + 1 {
			if e := x.lookup(one(bit)); e != api.ErrNone {
				t.Fatalf("bit %d of %d bytes: %v", bit, size, e)
			}
			if e := x.update(one(bit), valueOf(2, bit), 1); e != api.OK {
				t.Fatalf("bit %d of %d bytes: %v", bit, size, e)
			}
		}
		x.all()
		for bit := 8 * size; bit >= 0; bit-- {
			if e := x.delete(one(bit)); e != api.OK {
				t.Fatalf("bit %d of %d bytes: %v", bit, size, e)
			}
			x.lookup(one(bit))
		}
		x.all()
	}
}

// Keys are bytes, not a text: what tells a text no text, and great and small signs, are keys of their own.
func TestP11_2NoText(t *testing.T) {
	x := newBoth(t, 2, 1, 9)
	for i, key := range []string{"ab", "AB", "Ab", "a\x00", "\x00a", "\xff\xfe", "\xff\xfd", "\xc3\xa4", "\xef\xbf"} {
		if e := x.update([]byte(key), []byte{byte(i)}, 1); e != api.OK {
			t.Errorf("%q: %v", key, e)
		}
		x.all()
	}
	for _, key := range []string{"aB", "\x00\x00", "ba", "\xfe\xff", "\xc3\xa5", "\xc3\x84", "  ", "a "} {
		if e := x.lookup([]byte(key)); e != api.ErrNone {
			t.Errorf("%q: %v", key, e)
		}
	}
}

// Keys, values and flags, right and wrong, each with each, of hashes that have room and of such as have none.
func TestP11_2UpdateEach(t *testing.T) {
	for _, sort := range [][3]int{{1, 1, 1}, {1, 2, 9}, {2, 3, 4}, {8, 1, 300}, {64, 5, 6}, {3, 1024, 2}} {
		x := newBoth(t, sort[0], sort[1], sort[2])
		seen := map[api.Errno]int{}
		for _, flag := range append([]uint64{2, 1}, flags()...) {
			for _, size := range []int{0, 1, sort[1] - 1, sort[1], sort[1] + 1, 2 * sort[1], sort[1] + 256, 1024} {
				for i, key := range keys(sort[0]) {
					value := row(size + i)[i:]
					seen[x.update(key, value, flag)]++
				}
			}
			x.all()
		}
		for _, e := range []api.Errno{api.OK, api.ErrArg, api.ErrNone, api.ErrThere} {
			if seen[e] == 0 {
				t.Errorf("of %v no update tells %v", sort, e)
			}
		}
		if (seen[api.ErrFull] > 0) != (sort[2] < 300) {
			t.Errorf("of %v %d updates tell that it is full", sort, seen[api.ErrFull])
		}
	}
}

func TestP11_2UpdateFirstError(t *testing.T) {
	x := newBoth(t, 2, 2, 2)
	for _, full := range []bool{false, true} {
		x.update([]byte("aa"), []byte("11"), 0)
		first, again := api.OK, api.ErrThere
		if full {
			x.update([]byte("bb"), []byte("22"), 0)
			first, again = api.ErrFull, api.ErrFull
		}
		for _, y := range []struct {
			key, value string
			flags      uint64
			e          api.Errno
		}{
			{"", "11", 0, 2}, {"a", "11", 0, 2}, {"aaa", "11", 0, 2}, {"a", "11", 1, 2}, {"aaa", "11", 1, 2}, {"aa\x00", "11", 1, 2}, {"a", "11", 2, 2}, {"zzz", "11", 2, 2}, {"zzz", "11", 0, 2},
			{"aa", "1", 0, 2}, {"aa", "111", 0, 2}, {"aa", "", 0, 2}, {"aa", "1", 1, 2}, {"aa", "111", 2, 2}, {"zz", "1", 0, 2}, {"zz", "111", 1, 2}, {"zz", "1", 2, 2}, {"zz", "", 0, 2},
			{"aa", "11", 3, 2}, {"aa", "11", 4, 2}, {"zz", "11", 3, 2}, {"zz", "11", 5, 2}, {"aa", "11", math.MaxUint64, 2}, {"zz", "11", 1 << 63, 2}, {"aa", "11", 1 << 32, 2}, {"zz", "11", 1<<32 + 1, 2}, {"aa", "11", 257, 2}, {"zz", "11", 258, 2}, {"zz", "11", 256, 2},
			{"aa", "33", 1, 7}, {"aa", "11", 1, 7},
			{"zz", "33", 2, 6}, {"aA", "33", 2, 6},
			{"aa", "44", 0, 0}, {"aa", "55", 2, 0},
			{"zz", "66", 0, first}, {"zz", "77", 1, again},
		} {
			if e := x.update([]byte(y.key), []byte(y.value), y.flags); e != y.e {
				t.Errorf("full %v: Update(%q, %q, %d): %v; want %v", full, y.key, y.value, y.flags, e, y.e)
			}
			x.all()
		}
		x.delete([]byte("zz"))
	}
}

func TestP11_2LookupAndDeleteFirstError(t *testing.T) {
	x := newBoth(t, 2, 1, 3)
	x.update([]byte("aa"), []byte("1"), 0)
	x.update([]byte("bb"), []byte("2"), 0)
	for _, y := range []struct {
		key string
		e   api.Errno
	}{
		{"", 2}, {"a", 2}, {"aaa", 2}, {"z", 2}, {"zzz", 2}, {"aa\x00", 2}, {"aabb", 2}, {"zz", 6}, {"ab", 6}, {"ba", 6}, {"AA", 6}, {"\x00\x00", 6},
	} {
		if e := x.lookup([]byte(y.key)); e != y.e {
			t.Errorf("Lookup(%q): %v; want %v", y.key, e, y.e)
		}
		if e := x.delete([]byte(y.key)); e != y.e {
			t.Errorf("Delete(%q): %v; want %v", y.key, e, y.e)
		}
		x.all()
	}
}

// Values of every length.
func TestP11_2UpdateLengths(t *testing.T) {
	for _, size := range []int{1, 2, 255, 256, 1023, 1024} {
		x := newBoth(t, 3, size, 2)
		fits := 0
		for length := range 1300 {
			if x.update([]byte("key"), row(length), uint64(length%2)) == api.OK {
				fits++
			}
			if x.update([]byte("key"), row(length), 2) == api.OK {
				fits++
			}
		}
		x.update([]byte("key"), make([]byte, 1<<16+size), 0)
		x.all()
		if fits != 2 {
			t.Errorf("of %d lengths a value of %d bytes was put", fits, size)
		}
	}
}

// Hashes whose places are all taken take no new key, until one is deleted.
func TestP11_2Full(t *testing.T) {
	for _, sort := range sorts() {
		entries := min(sort[2], 255)
		x := newBoth(t, sort[0], sort[1], entries)
		x.fill(0, entries)
		x.all()
		next, value := keyOf(sort[0], entries), row(sort[1])
		for i, e := range []api.Errno{api.ErrFull, api.ErrFull, api.ErrNone, api.ErrArg} {
			if got := x.update(next, value, uint64(i)); got != e {
				t.Errorf("%v: a new key, %d: %v", sort, i, got)
			}
		}
		for i, e := range []api.Errno{api.OK, api.ErrThere, api.OK, api.ErrArg} {
			if got := x.update(keyOf(sort[0], entries/2), value, uint64(i)); got != e {
				t.Errorf("%v: a key, %d: %v", sort, i, got)
			}
		}
		x.all()
		for _, gone := range []int{entries / 3, entries - 1, 0} {
			x.delete(keyOf(sort[0], gone))
			if e := x.update(next, value, 2); e != api.ErrNone {
				t.Errorf("%v: %v", sort, e)
			}
			if e := x.update(next, value, 1); e != api.OK {
				t.Errorf("%v: %v", sort, e)
			}
			if n, e := x.h.Lookup(next); n != gone || e != api.OK {
				t.Errorf("%v: behind place %d is free: %d, %v", sort, gone, n, e)
			}
			x.all()
			x.delete(next)
			x.update(keyOf(sort[0], gone), value, 0)
		}
		x.all()
	}
}

// As many keys as may be, of as many bytes as may be.
func TestP11_2FullOfAll(t *testing.T) {
	for _, size := range []int{2, 64} {
		x := newBoth(t, size, 1024, 1024)
		for n := range 1024 {
			if e := x.update(keyOf(size, 3*n), valueOf(1024, n), 1); e != api.OK {
				t.Fatalf("key %d: %v", n, e)
			}
		}
		x.all()
		for n := 1; n < 3*1024; n += 100 {
			x.update(keyOf(size, n), row(1024), 0)
		}
		for _, n := range []int{1023, 0, 511, 512} {
			x.set(n, 0, []byte("first"))
			x.set(n, 1018, []byte("behind"))
			x.set(n, 1019, []byte("behind"))
			x.delete(keyOf(size, 3*n))
		}
		x.all()
		for n := range 5 {
			x.update(keyOf(size, 3*n+1), valueOf(1024, n), 0)
		}
		x.all()
	}
}

// Of each choice of places that are free a new key has the least one, then the next, whatever went first.
func TestP11_2LeastFree(t *testing.T) {
	const entries = 6
	for choice := range 1 << entries {
		for turn := range 3 {
			x := newBoth(t, 2, 2, entries)
			x.fill(0, entries)
			var gone []int
			for n := range entries {
				if choice>>n&1 == 1 {
					gone = append(gone, n)
				}
			}
			order := slices.Clone(gone)
			switch turn {
			case 1:
				slices.Reverse(order)
			case 2:
				rand.New(rand.NewSource(int64(choice))).Shuffle(len(order), func(i, j int) { order[i], order[j] = order[j], order[i] })
			}
			for _, n := range order {
				x.delete(keyOf(2, n))
			}
			x.all()
			for i, want := range gone {
				key := keyOf(2, 1000-i)
				x.update(key, valueOf(2, 50+i), 0)
				if n, e := x.h.Lookup(key); n != want || e != api.OK {
					t.Fatalf("free %v: the key %d has %d, %v", gone, i, n, e)
				}
				x.all()
			}
			if e := x.update(keyOf(2, 2000), []byte("no"), 0); e != api.ErrFull {
				t.Fatalf("free %v: %v", gone, e)
			}
		}
	}
}

// A place is free again at once; all others stay, and the bytes there do, till something is put there.
func TestP11_2DeletedBytesStay(t *testing.T) {
	h, _ := hash.New(specOf(1, 3, 2))
	h.Update([]byte("a"), []byte("abc"), 0)
	h.Update([]byte("b"), []byte("xyz"), 0)
	if e := h.Delete([]byte("a")); e != api.OK {
		t.Fatalf("Delete: %v", e)
	}
	checkValue(t, h, 0, "abc")
	checkValue(t, h, 1, "xyz")
	if n, e := h.Lookup([]byte("a")); n != 0 || e != api.ErrNone {
		t.Errorf("Lookup: %d, %v", n, e)
	}
	if e := h.Delete([]byte("a")); e != api.ErrNone {
		t.Errorf("Delete: %v", e)
	}
	if e := h.Update([]byte("a"), []byte("123"), 2); e != api.ErrNone {
		t.Errorf("Update: %v", e)
	}
	checkValue(t, h, 0, "abc")
	if e := h.Set(0, 1, []byte("-")); e != api.OK {
		t.Errorf("Set: %v", e)
	}
	checkValue(t, h, 0, "a-c")
	checkKeys(t, h, "b")
	if e := h.Delete([]byte("b")); e != api.OK {
		t.Errorf("Delete: %v", e)
	}
	checkValue(t, h, 0, "a-c")
	checkValue(t, h, 1, "xyz")
	checkKeys(t, h, "")
	if e := h.Update([]byte("c"), []byte("456"), 1); e != api.OK {
		t.Errorf("Update: %v", e)
	}
	checkValue(t, h, 0, "456")
	checkValue(t, h, 1, "xyz")
	checkKeys(t, h, "c")
}

func checkValue(t *testing.T, h *hash.Hash, place int, want string) {
	t.Helper()
	if b, e := h.Value(place); string(b) != want || e != api.OK {
		t.Errorf("Value(%d): %q, %v; want %q", place, b, e, want)
	}
}

// Of each sort of hash keys go one by one, from both ends.
func TestP11_2DeleteAll(t *testing.T) {
	for _, sort := range [][3]int{{1, 1, 1}, {1, 2, 40}, {5, 1, 41}, {64, 3, 17}} {
		x := newBoth(t, sort[0], sort[1], sort[2])
		for turn := range 3 {
			x.fill(turn, sort[2])
			for i := range sort[2] {
				n := turn + i/2
				if i%2 == 1 {
					n = turn + sort[2] - 1 - i/2
				}
				if e := x.delete(keyOf(sort[0], n)); e != api.OK {
					t.Fatalf("%v: key %d: %v", sort, n, e)
				}
				x.delete(keyOf(sort[0], n))
				x.all()
			}
		}
	}
}

func TestP11_3ValuePlaces(t *testing.T) {
	for _, sort := range sorts() {
		x := newBoth(t, sort[0], sort[1], sort[2])
		x.fill(0, min(sort[2], 200))
		x.all()
		for place := -300; place < sort[2]+300; place++ {
			x.value(place)
		}
	}
}

// Each place and each number of bytes about the edges of a value, of taken places and of free ones.
func TestP11_3SetEdges(t *testing.T) {
	for _, sort := range [][3]int{{1, 1, 1}, {1, 1, 3}, {2, 2, 3}, {1, 3, 2}, {64, 8, 2}, {3, 255, 2}, {1, 1024, 2}} {
		x := newBoth(t, sort[0], sort[1], sort[2])
		x.fill(1, sort[2]/2)
		for _, off := range edges(sort[1]) {
			for _, many := range edges(sort[1]) {
				if many < 0 || many > 1<<12 {
					continue
				}
				for place := -1; place <= sort[2]; place++ {
					x.set(place, off, slices.Repeat([]byte{byte(off) + byte(many) + byte(place) + 1}, many))
					x.all()
				}
			}
		}
	}
}

func TestP11_3SetAllPlaces(t *testing.T) {
	x := newBoth(t, 1, 12, 3)
	x.fill(0, 2)
	x.delete(keyOf(1, 0))
	fits := 0
	for off := -3; off <= 15; off++ {
		for many := range 16 {
			for place := -2; place <= 4; place++ {
				if x.set(place, off, slices.Repeat([]byte{byte(16*off + many + 5*place)}, many)) == api.OK {
					fits++
				}
				x.all()
			}
		}
	}
	if fits != 3*13*14/2 {
		t.Errorf("%d of them fit", fits)
	}
}

func TestP11_3SetFirstError(t *testing.T) {
	const least, greatest = math.MinInt64, math.MaxInt64
	h, _ := hash.New(specOf(1, 4, 2))
	h.Update([]byte("k"), []byte("abcd"), 0)
	for _, x := range []struct {
		place, off int
		b          string
		e          api.Errno
		one, two   string
	}{
		{0, 4, "", 0, "abcd", "\x00\x00\x00\x00"}, {0, 3, "!", 0, "abc!", "\x00\x00\x00\x00"}, {1, 0, "ABCD", 0, "abc!", "ABCD"}, {1, 3, "3", 0, "abc!", "ABC3"}, {0, 1, "12", 0, "a12!", "ABC3"}, {0, 3, "d", 0, "a12d", "ABC3"},
		{0, 4, "!", 32, "a12d", "ABC3"}, {0, 5, "", 32, "a12d", "ABC3"}, {0, 3, "!!", 32, "a12d", "ABC3"}, {0, 0, "!!!!!", 32, "a12d", "ABC3"}, {0, -1, "", 32, "a12d", "ABC3"}, {0, -1, "!", 32, "a12d", "ABC3"}, {0, -1, "!!", 32, "a12d", "ABC3"}, {1, -4, "!!!!", 32, "a12d", "ABC3"}, {1, 4, "!", 32, "a12d", "ABC3"}, {1, 5, "", 32, "a12d", "ABC3"},
		{0, greatest, "", 32, "a12d", "ABC3"}, {0, greatest, "!", 32, "a12d", "ABC3"}, {0, greatest - 1, "!!", 32, "a12d", "ABC3"}, {0, greatest, "!!!!!", 32, "a12d", "ABC3"}, {0, least, "", 32, "a12d", "ABC3"}, {0, least, "!", 32, "a12d", "ABC3"}, {1, least + 4, "!!!!", 32, "a12d", "ABC3"}, {0, 1 << 32, "!", 32, "a12d", "ABC3"}, {0, 1<<32 + 1, "", 32, "a12d", "ABC3"},
		{2, 0, "!", 6, "a12d", "ABC3"}, {-1, 0, "!", 6, "a12d", "ABC3"}, {2, 0, "", 6, "a12d", "ABC3"}, {-1, 0, "", 6, "a12d", "ABC3"}, {1 << 32, 0, "!", 6, "a12d", "ABC3"}, {greatest, 0, "!", 6, "a12d", "ABC3"}, {least, 0, "!", 6, "a12d", "ABC3"},
		{2, -1, "!", 6, "a12d", "ABC3"}, {2, 5, "", 6, "a12d", "ABC3"}, {-1, 4, "!!!!", 6, "a12d", "ABC3"}, {least, greatest, "!!", 6, "a12d", "ABC3"}, {greatest, least, "", 6, "a12d", "ABC3"}, {-1, 8, "!!!!!", 6, "a12d", "ABC3"},
		{1, 0, "wxyz", 0, "a12d", "wxyz"},
	} {
		if e := h.Set(x.place, x.off, []byte(x.b)); e != x.e {
			t.Errorf("Set(%d, %d, %q): %v; want %v", x.place, x.off, x.b, e, x.e)
		}
		checkValue(t, h, 0, x.one)
		checkValue(t, h, 1, x.two)
		checkKeys(t, h, "k")
	}
}

// Of a place that is none it doesn't matter whether what is to be set would fit.
func TestP11_3NoPlace(t *testing.T) {
	x := newBoth(t, 2, 8, 3)
	x.fill(0, 2)
	for _, place := range x.noPlaces() {
		for _, off := range edges(8) {
			for _, many := range []int{0, 1, 8, 9, 2000} {
				if e := x.set(place, off, row(many)); e != api.ErrNone {
					t.Fatalf("Set(%d, %d, %d bytes): %v", place, off, many, e)
				}
			}
		}
	}
	x.all()
}

// No bytes are alike, nil or not.
func TestP11_3SetNothing(t *testing.T) {
	h, _ := hash.New(specOf(1, 3, 1))
	h.Set(0, 0, []byte("abc"))
	for i, b := range [][]byte{nil, {}, make([]byte, 0, 8), row(8)[8:]} {
		for off := -1; off <= 4; off++ {
			want := api.OK
			if off < 0 || off > 3 {
				want = api.ErrBounds
			}
			if e := h.Set(0, off, b); e != want {
				t.Errorf("%d: Set(0, %d, none): %v", i, off, e)
			}
		}
	}
	checkValue(t, h, 0, "abc")
}

// What is set at a free place makes no key, and stands there until a key's value does.
func TestP11_3FreePlaces(t *testing.T) {
	x := newBoth(t, 1, 4, 4)
	x.update([]byte("a"), []byte("1234"), 0)
	for place := range 4 {
		x.set(place, place, []byte("s"))
		x.all()
	}
	for _, key := range []string{"b", "c", "d"} {
		x.update([]byte(key), []byte("wxyz"), 1)
		x.all()
		x.delete([]byte(key))
		x.set(1, 2, []byte(key))
		x.all()
		x.update([]byte(key), []byte("WXYZ"), 0)
		x.all()
	}
}

// All keys of one byte, put in any order, rise by their bytes as numbers without a sign.
func TestP11_3KeysOfOneByte(t *testing.T) {
	for turn := range 6 {
		x := newBoth(t, 1, 1, 256)
		for _, n := range rand.New(rand.NewSource(int64(turn))).Perm(256) {
			x.update([]byte{byte(n)}, []byte{1}, 0)
			x.keys()
		}
		for i, key := range x.h.Keys() {
			if len(key) != 1 || int(key[0]) != i {
				t.Fatalf("the key %d is %v", i, key)
			}
		}
	}
}

// The first byte that is not alike counts, wherever it is, and none behind it.
func TestP11_3KeysRise(t *testing.T) {
	h, _ := hash.New(specOf(3, 1, 20))
	for _, key := range []string{"bab", "\x00\x00\x01", "zzz", "ab\xff", "\xff\x00\x00", "aba", "\x00\x01\x00", "ABC", "\x01\x00\x00", "\x80\x00\x00", "\x7f\xff\xff", "aca", "\x00\x00\x00", "a\x00z", "\xff\xff\xff"} {
		if e := h.Update([]byte(key), []byte{1}, 0); e != api.OK {
			t.Fatalf("%q: %v", key, e)
		}
	}
	checkKeys(t, h, "\x00\x00\x00 \x00\x00\x01 \x00\x01\x00 \x01\x00\x00 ABC a\x00z aba ab\xff aca bab zzz \x7f\xff\xff \x80\x00\x00 \xff\x00\x00 \xff\xff\xff")
	for _, size := range []int{2, 8, 9, 63, 64} {
		x := newBoth(t, size, 1, 3*size+1)
		x.update(slices.Repeat([]byte{7}, size), []byte{0}, 0)
		for at := range size {
			for i, c := range []byte{6, 8, 200} {
				key := slices.Repeat([]byte{7}, size)
				key[at] = c
				for behind := at + 1; behind < size && i > 0; behind++ {
					key[behind] = byte(9 - c)
				}
				x.update(key, []byte{c}, 1)
			}
			x.keys()
		}
	}
}

// Keys are told alike each time, though a map is gone through in any order.
func TestP11_3KeysAlike(t *testing.T) {
	x, y := newBoth(t, 4, 1, 500), newBoth(t, 4, 1, 500)
	x.fill(0, 500)
	for n := 499; n >= 0; n-- {
		y.update(keyOf(4, n), valueOf(1, n), 0)
	}
	first := x.h.Keys()
	for range 20 {
		if !slices.EqualFunc(first, x.h.Keys(), bytes.Equal) || !slices.EqualFunc(first, y.h.Keys(), bytes.Equal) {
			t.Fatal("the keys are not those that were told ahead")
		}
	}
	y.all()
}

// An update is of the place that Lookup tells, which no other key has; each is followed by a look at all places.
func TestP11_4OthersStay(t *testing.T) {
	for _, sort := range [][3]int{{1, 1, 1}, {1, 1, 64}, {2, 3, 40}, {64, 7, 100}} {
		x := newBoth(t, sort[0], sort[1], sort[2])
		for turn, flag := range []uint64{0, 2} {
			for n := range sort[2] {
				key, value := keyOf(sort[0], n), slices.Repeat([]byte{byte(n) ^ byte(turn+1)<<6}, sort[1])
				x.update(key, value, flag)
				at, e := x.h.Lookup(key)
				b, f := x.h.Value(at)
				if at != n || e != api.OK || f != api.OK || !bytes.Equal(b, value) {
					t.Fatalf("Update(%v): Lookup %d, %v; Value %v, %v", key, at, e, b, f)
				}
				x.all()
			}
		}
		for place := range sort[2] {
			for off := range sort[1] {
				x.set(place, off, []byte{byte(3 * place)})
			}
			x.all()
		}
	}
}

// A key keeps its place until it is deleted, whatever becomes of the others.
func TestP11_4KeepsPlace(t *testing.T) {
	h, _ := hash.New(specOf(1, 1, 8))
	places := map[string]int{}
	look := func() {
		t.Helper()
		taken := map[int]string{}
		for key, place := range places {
			if n, e := h.Lookup([]byte(key)); n != place || e != api.OK {
				t.Fatalf("the key %q has %d, %v; had %d", key, n, e, place)
			}
			if other, is := taken[place]; is {
				t.Fatalf("%q and %q have %d", key, other, place)
			}
			taken[place] = key
		}
	}
	put := func(key string) {
		t.Helper()
		if e := h.Update([]byte(key), []byte(key), 0); e != api.OK {
			t.Fatalf("Update(%q): %v", key, e)
		}
		n, _ := h.Lookup([]byte(key))
		if was, there := places[key]; there && was != n {
			t.Fatalf("the key %q has %d, had %d", key, n, was)
		}
		places[key] = n
		look()
	}
	for _, key := range []string{"h", "b", "z", "a", "h", "y", "b", "c", "a"} {
		put(key)
	}
	for _, key := range []string{"z", "h", "a"} {
		h.Delete([]byte(key))
		delete(places, key)
		look()
	}
	for _, key := range []string{"m", "y", "z", "c", "n", "b"} {
		put(key)
	}
	if len(places) != 6 || places["m"] != 0 || places["b"] != 1 || places["z"] != 2 || places["n"] != 3 || places["y"] != 4 || places["c"] != 5 {
		t.Errorf("%v", places)
	}
}

// What is handed in is not kept, and what was told stays as it was.
func TestP11_4ToldApart(t *testing.T) {
	h, _ := hash.New(specOf(2, 8, 2))
	key, given := []byte("k1"), []byte("abcdefgh")
	h.Update(key, given, 0)
	key[1] = '2'
	h.Update(key, given, 0)
	overwrite(key)
	overwrite(given)
	checkKeys(t, h, "k1 k2")
	told := h.Keys()
	one, _ := h.Value(0)
	two, _ := h.Value(0)
	three, _ := h.Value(1)
	for _, b := range [][]byte{one, two, three} {
		if string(b) != "abcdefgh" {
			t.Fatalf("%q", b)
		}
	}
	overwrite(one)
	if string(two) != "abcdefgh" || string(three) != "abcdefgh" {
		t.Fatalf("%q, %q", two, three)
	}
	part := []byte("123")
	h.Set(0, 2, part)
	h.Update([]byte("k2"), []byte("ABCDEFGH"), 2)
	overwrite(part)
	h.Delete([]byte("k1"))
	h.Update([]byte("k0"), []byte("ab123fgh"), 1)
	if string(two) != "abcdefgh" || string(three) != "abcdefgh" || string(told[0]) != "k1" || string(told[1]) != "k2" {
		t.Fatalf("%q, %q, %q", two, three, told)
	}
	checkValue(t, h, 0, "ab123fgh")
	checkValue(t, h, 1, "ABCDEFGH")
	again := h.Keys()
	overwrite(again[0])
	if string(again[1]) != "k2" || string(told[1]) != "k2" {
		t.Fatalf("%q, %q", again, told)
	}
	again[1] = nil
	overwrite(told[0])
	overwrite(told[1])
	checkKeys(t, h, "k0 k2")
	if n, e := h.Lookup([]byte("k2")); n != 1 || e != api.OK {
		t.Errorf("Lookup: %d, %v", n, e)
	}
}

// Two hashes of one make are apart.
func TestP11_4HashesApart(t *testing.T) {
	x, y := newBoth(t, 1, 3, 4), newBoth(t, 1, 3, 4)
	x.update([]byte("a"), []byte("abc"), 0)
	y.set(2, 1, []byte("z"))
	x.all()
	y.all()
	y.update([]byte("b"), []byte("xyz"), 1)
	y.update([]byte("a"), []byte("uvw"), 1)
	z := newBoth(t, 1, 3, 4)
	x.set(3, 0, []byte("123"))
	y.delete([]byte("b"))
	x.all()
	y.all()
	z.all()
}

// What looks at a hash, and what may not be, changes nothing.
func TestP11_4NothingChanges(t *testing.T) {
	for _, many := range []int{3, 5} {
		x := newBoth(t, 2, 4, 5)
		x.fill(0, many)
		for _, key := range append(keys(2), []byte("zz"), []byte{4, 0}) {
			_, there := x.where(key)
			x.lookup(key)
			x.update(key, []byte("wxy"), 0)
			x.update(key, []byte("wxyz!"), 2)
			x.update(key, []byte("wxyz"), 3)
			if !there {
				x.delete(key)
				x.update(key, []byte("wxyz"), 2)
			}
			if there || many == 5 {
				x.update(key, []byte("wxyz"), 1)
			}
			x.all()
		}
		for place := range 5 {
			for _, off := range edges(4) {
				x.set(place, off, nil)
				x.set(place, off, []byte("wxyz!"))
				if off != 0 {
					x.set(place, off, []byte("wxyz"))
				}
				x.all()
			}
		}
	}
}

// Calls in any order, held against the chapter's words behind each.
func TestP11_4Drawn(t *testing.T) {
	draw := rand.New(rand.NewSource(11))
	drawn := func(size, signs int) []byte {
		b := make([]byte, size)
		for i := range b {
			b[i] = byte(draw.Intn(signs) * 255 / (signs - 1))
		}
		return b
	}
	for range 150 {
		size, value, entries := 1+draw.Intn(4), 1+draw.Intn(12), 1+draw.Intn(20)
		x := newBoth(t, size, value, entries)
		signs := 2 + draw.Intn(4)
		key := func() []byte {
			if draw.Intn(12) == 0 {
				return drawn(draw.Intn(7), signs)
			}
			return drawn(size, signs)
		}
		for range 300 {
			length := value
			if draw.Intn(8) == 0 {
				length = draw.Intn(value + 3)
			}
			switch draw.Intn(10) {
			case 0, 1, 2, 3:
				x.update(key(), drawn(length, 256), uint64(draw.Intn(4)))
			case 4, 5, 6:
				x.set(draw.Intn(entries+2)-1, draw.Intn(value+3)-1, drawn(draw.Intn(value+2), 256))
			case 7:
				x.lookup(key())
			default:
				x.delete(key())
			}
			x.all()
		}
	}
}

// The same of great hashes, which are looked at now and then.
func TestP11_4DrawnGreat(t *testing.T) {
	draw := rand.New(rand.NewSource(1024))
	for _, sort := range [][3]int{{1, 8, 200}, {2, 1, 1024}, {64, 4, 1000}} {
		x := newBoth(t, sort[0], sort[1], sort[2])
		for turn := range 12000 {
			key := keyOf(sort[0], draw.Intn(sort[2]*5/4))
			switch draw.Intn(5) {
			case 0:
				x.delete(key)
			case 1:
				x.lookup(key)
			default:
				x.update(key, valueOf(sort[1], draw.Intn(1<<20)), uint64(draw.Intn(3)))
			}
			if turn%1500 == 0 {
				x.all()
			}
		}
		x.all()
	}
}

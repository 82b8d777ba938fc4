package lru_test

import (
	"bytes"
	"math"
	"slices"
	"testing"

	"hatchway/api"
	"hatchway/kinds"
	"hatchway/lru"
)

// The whole of what callers lean on.
var _ interface {
	Lookup(key []byte) (int, api.Errno)
	Update(key, value []byte, flags uint64) api.Errno
	Delete(key []byte) api.Errno
	Value(place int) ([]byte, api.Errno)
	Set(place, off int, b []byte) api.Errno
	Keys() [][]byte
} = new(lru.Lru)

// sorts are lrus by the bytes of a key, of a value, and the places: one of each, as many of each as may be, and some between.
func sorts() [][3]int {
	return [][3]int{{1, 1, 1}, {1, 1, 2}, {64, 1, 1}, {1, 1024, 1}, {1, 1, 256}, {2, 1, 1024}, {64, 1024, 1024}, {2, 3, 7}, {4, 8, 16}, {8, 2, 300}, {63, 1023, 3}, {33, 255, 5}}
}

func checkKeys(t *testing.T, l *lru.Lru, want string) {
	t.Helper()
	if got := string(bytes.Join(l.Keys(), []byte(" "))); got != want {
		t.Errorf("Keys: %q; want %q", got, want)
	}
}

func checkValue(t *testing.T, l *lru.Lru, place int, want string) {
	t.Helper()
	if b, e := l.Value(place); string(b) != want || e != api.OK {
		t.Errorf("Value(%d): %q, %v; want %q", place, b, e, want)
	}
}

func checkLookup(t *testing.T, l *lru.Lru, key string, place int) {
	t.Helper()
	if n, e := l.Lookup([]byte(key)); n != place || e != api.OK {
		t.Errorf("Lookup(%q): %d, %v; want %d", key, n, e, place)
	}
}

func checkUpdate(t *testing.T, l *lru.Lru, key, value string, flags uint64) {
	t.Helper()
	if e := l.Update([]byte(key), []byte(value), flags); e != api.OK {
		t.Errorf("Update(%q, %q, %d): %v", key, value, flags, e)
	}
}

func checkDelete(t *testing.T, l *lru.Lru, key string) {
	t.Helper()
	if e := l.Delete([]byte(key)); e != api.OK {
		t.Errorf("Delete(%q): %v", key, e)
	}
}

func checkNew(t *testing.T, s api.MapSpec) *lru.Lru {
	t.Helper()
	want := wantNew(s)
	l, e := lru.New(s)
	if e != want || (l != nil) != (want == api.OK) {
		t.Fatalf("New(%+v): %v, %v; want %v", s, l != nil, e, want)
	}
	if own := kinds.Spec(s); own != api.OK && e != own {
		t.Fatalf("New(%+v): %v; kinds tells %v", s, e, own)
	}
	return l
}

// Each Kind that a byte can be, with parts that are right for some of them, and such as are right for none.
func TestP12_1Kinds(t *testing.T) {
	made := 0
	for kind := range 256 {
		for _, key := range []int{-1, 0, 1, 4, 5, 36, 64, 65, 1 << 32, 1<<32 + 4, math.MinInt64, math.MaxInt64} {
			for _, value := range []int{-1, 0, 1, 8, 1025, 1<<32 + 1, math.MinInt64} {
				for _, entries := range []int{-1, 0, 1, 16, 64, 1025, 16384, 1<<32 + 1, math.MaxInt64} {
					if checkNew(t, api.MapSpec{Kind: api.MapKind(kind), Key: key, Value: value, Entries: entries}) != nil {
						made++
					}
				}
			}
		}
	}
	if made != 5*2*3 {
		t.Errorf("%d lrus were made", made)
	}
}

// Each number of keys, of bytes of one, and of bytes of a value.
func TestP12_1Parts(t *testing.T) {
	for n := -3; n <= 1030; n++ {
		checkNew(t, specOf(n, 1, 1))
		checkNew(t, specOf(1, n, 1))
		checkNew(t, specOf(1, 1, n))
		checkNew(t, specOf(64, n, 2))
		checkNew(t, api.MapSpec{Kind: 2, Key: n, Value: 1, Entries: 1})
		checkNew(t, api.MapSpec{Kind: 4, Key: n, Value: 1, Entries: 1})
	}
}

func TestP12_1FirstError(t *testing.T) {
	for _, x := range []struct {
		s api.MapSpec
		e api.Errno
	}{
		{api.MapSpec{}, 9}, {api.MapSpec{Kind: 9}, 9}, {api.MapSpec{Kind: 255, Key: 4, Value: 1, Entries: 1}, 9}, {api.MapSpec{Key: 4, Value: 1, Entries: 1}, 9},
		{api.MapSpec{Kind: 3}, 2}, {specOf(1, 1, 0), 2}, {specOf(1, 0, 1), 2}, {specOf(0, 1, 1), 2}, {specOf(1, 1, 1025), 2}, {specOf(1, 1025, 1), 2}, {specOf(65, 1, 1), 2}, {specOf(1, 1, -1), 2}, {specOf(1, -1, 1), 2}, {specOf(-1, 1, 1), 2},
		{api.MapSpec{Kind: 1}, 2}, {api.MapSpec{Kind: 1, Key: 5, Value: 1, Entries: 1}, 2}, {api.MapSpec{Kind: 2}, 2}, {api.MapSpec{Kind: 2, Key: 65, Value: 1, Entries: 1}, 2}, {api.MapSpec{Kind: 4, Key: 4, Value: 1, Entries: 1}, 2}, {api.MapSpec{Kind: 5, Key: 4, Value: 1, Entries: 1}, 2}, {api.MapSpec{Kind: 7, Key: 4, Value: 1, Entries: 1}, 2}, {api.MapSpec{Kind: 8, Key: 4, Value: 1, Entries: 1}, 2},
		{api.MapSpec{Kind: 1, Key: 4, Value: 1, Entries: 1}, 9}, {api.MapSpec{Kind: 2, Key: 4, Value: 1, Entries: 1}, 9}, {api.MapSpec{Kind: 4, Key: 5, Value: 1, Entries: 1}, 9}, {api.MapSpec{Kind: 5, Value: 1, Entries: 1}, 9}, {api.MapSpec{Kind: 6, Value: 1, Entries: 1}, 9}, {api.MapSpec{Kind: 7, Entries: 16}, 9}, {api.MapSpec{Kind: 8, Key: 4, Value: 8, Entries: 1}, 9},
		{specOf(1, 1, 1), 0}, {specOf(64, 1024, 1024), 0},
	} {
		if l, e := lru.New(x.s); e != x.e || (l != nil) != (e == api.OK) {
			t.Errorf("New(%+v): %v, %v; want %v", x.s, l != nil, e, x.e)
		}
	}
}

// As many places as the make says, of as many bytes, noughts all of them, and no key.
func TestP12_1Noughts(t *testing.T) {
	for _, sort := range sorts() {
		x := newBoth(t, sort[0], sort[1], sort[2])
		x.all()
		for _, key := range keys(sort[0]) {
			x.lookup(key)
			x.delete(key)
			x.update(key, row(sort[1]), 2)
		}
		x.all()
	}
	for n := 1; n <= 1024; n += 11 {
		newBoth(t, 1+n%64, n, 1+n%3).all()
		newBoth(t, 1+n%64, 1+n%5, n).all()
	}
}

// checkNothing asks an lru that is not there for everything, right or wrong.
func checkNothing(t *testing.T, name string, l *lru.Lru) {
	t.Helper()
	values := [][]byte{nil, row(1), row(4), row(5)}
	for _, key := range append(keys(2), []byte("ab"), []byte{}) {
		if n, e := l.Lookup(key); n != 0 || e != api.ErrNil {
			t.Errorf("%s: Lookup(%v): %d, %v", name, key, n, e)
		}
		if e := l.Delete(key); e != api.ErrNil {
			t.Errorf("%s: Delete(%v): %v", name, key, e)
		}
		for _, value := range values {
			for _, flag := range flags() {
				if e := l.Update(key, value, flag); e != api.ErrNil {
					t.Errorf("%s: Update(%v, %v, %d): %v", name, key, value, flag, e)
				}
			}
		}
	}
	for _, place := range edges(3) {
		if b, e := l.Value(place); b != nil || e != api.ErrNil {
			t.Errorf("%s: Value(%d): %v, %v", name, place, b, e)
		}
		for _, off := range edges(4) {
			for _, b := range values {
				if e := l.Set(place, off, b); e != api.ErrNil {
					t.Errorf("%s: Set(%d, %d, %v): %v", name, place, off, b, e)
				}
			}
		}
	}
	if keys := l.Keys(); len(keys) != 0 {
		t.Errorf("%s: Keys: %v", name, keys)
	}
}

// What New did not answer is no lru.
func TestP12_1NoLru(t *testing.T) {
	var none *lru.Lru
	checkNothing(t, "nil", none)
	checkNothing(t, "zero", &lru.Lru{})
	checkNothing(t, "new", new(lru.Lru))
	lrus := make([]lru.Lru, 2)
	checkNothing(t, "of a slice", &lrus[1])
	x := newBoth(t, 2, 4, 3)
	x.fill(0, 2)
	x.update([]byte("ab"), []byte("abcd"), 0)
	copied := *x.l
	checkNothing(t, "a copy", &copied)
	x.all()
	x.set(2, 1, []byte("xy"))
	x.update([]byte("cd"), []byte("wxyz"), 0)
	checkNothing(t, "a copy", &copied)
	x.all()
}

func TestP12_2Example(t *testing.T) {
	l, e := lru.New(api.MapSpec{Kind: api.MapLru, Key: 1, Value: 1, Entries: 2})
	if l == nil || e != api.OK {
		t.Fatalf("New: %v, %v", l != nil, e)
	}
	checkKeys(t, l, "")
	checkUpdate(t, l, "a", "1", api.FlagAny)
	checkUpdate(t, l, "b", "2", api.FlagAny)
	checkKeys(t, l, "a b")
	checkLookup(t, l, "a", 0)
	checkKeys(t, l, "b a")
	checkUpdate(t, l, "c", "3", api.FlagAny)
	checkKeys(t, l, "a c")
	if n, e := l.Lookup([]byte("b")); n != 0 || e != api.ErrNone {
		t.Errorf("Lookup(b): %d, %v", n, e)
	}
	checkValue(t, l, 0, "1")
	checkValue(t, l, 1, "3")
	checkLookup(t, l, "c", 1)
	checkLookup(t, l, "a", 0)
	checkKeys(t, l, "c a")
}

// Keys of each number of bytes: only those of Key bytes are asked for, the others are wrong, those that are there with a byte less or more, too.
func TestP12_2KeyLengths(t *testing.T) {
	for size := 1; size <= 64; size++ {
		x := newBoth(t, size, 1, 3)
		there := row(200)[:size]
		x.update(there, []byte{1}, 0)
		x.update(make([]byte, size), []byte{2}, 0)
		seen := map[api.Errno]int{}
		for length := range 200 {
			for _, key := range [][]byte{row(200)[:length], make([]byte, length), slices.Repeat([]byte{255}, length)} {
				seen[x.lookup(key)]++
				x.update(key, []byte{3}, 2)
				if length != size {
					seen[x.update(key, []byte{4}, 0)]++
					seen[x.update(key, []byte{4}, 1)]++
					seen[x.delete(key)]++
				}
				x.keys()
			}
		}
		x.all()
		if seen[api.OK] != 2 || seen[api.ErrNone] != 1 || seen[api.ErrArg] != 4*3*199 {
			t.Errorf("of keys of %d bytes: %v", size, seen)
		}
	}
}

// Each bit of each byte of a key counts.
func TestP12_2EachBit(t *testing.T) {
	for _, size := range []int{1, 2, 7, 8, 9, 31, 32, 33, 63, 64} {
		x := newBoth(t, size, 2, 8*size+1)
		one := func(bit int) []byte {
			key := make([]byte, size)
			if bit > 0 {
				key[(bit-1)/8] = 1 << ((bit - 1) % 8)
			}
			return key
		}
		for bit := range 8*size + 1 {
			if e := x.lookup(one(bit)); e != api.ErrNone {
				t.Fatalf("bit %d of %d bytes: %v", bit, size, e)
			}
			if e := x.update(one(bit), valueOf(2, bit), 1); e != api.OK {
				t.Fatalf("bit %d of %d bytes: %v", bit, size, e)
			}
		}
		x.all()
		for bit := 8 * size; bit >= 0; bit-- {
			if e := x.delete(one(bit)); e != api.OK {
				t.Fatalf("bit %d of %d bytes: %v", bit, size, e)
			}
			x.lookup(one(bit))
		}
		x.all()
	}
}

// Keys are bytes, not a text: what tells a text no text, and great and small signs, are keys of their own.
func TestP12_2NoText(t *testing.T) {
	x := newBoth(t, 2, 1, 9)
	for i, key := range []string{"ab", "AB", "Ab", "a\x00", "\x00a", "\xff\xfe", "\xff\xfd", "\xc3\xa4", "\xef\xbf"} {
		if e := x.update([]byte(key), []byte{byte(i)}, 1); e != api.OK {
			t.Errorf("%q: %v", key, e)
		}
		x.all()
	}
	for _, key := range []string{"aB", "\x00\x00", "ba", "\xfe\xff", "\xc3\xa5", "\xc3\x84", "  ", "a "} {
		if e := x.lookup([]byte(key)); e != api.ErrNone {
			t.Errorf("%q: %v", key, e)
		}
	}
}

// Keys, values and flags, right and wrong, each with each, of lrus that have room for all of them and of such as have not.
func TestP12_2UpdateEach(t *testing.T) {
	for _, sort := range [][3]int{{1, 1, 1}, {1, 2, 9}, {2, 3, 4}, {8, 1, 300}, {64, 5, 6}, {3, 1024, 2}} {
		x := newBoth(t, sort[0], sort[1], sort[2])
		seen := map[api.Errno]int{}
		for _, flag := range append([]uint64{2, 1}, flags()...) {
			for _, size := range []int{0, 1, sort[1] - 1, sort[1], sort[1] + 1, 2 * sort[1], sort[1] + 256, 1024} {
				for i, key := range keys(sort[0]) {
					value := row(size + i)[i:]
					seen[x.update(key, value, flag)]++
				}
				x.keys()
			}
			x.look()
		}
		x.all()
		for _, e := range []api.Errno{api.OK, api.ErrArg, api.ErrNone, api.ErrThere} {
			if seen[e] == 0 {
				t.Errorf("of %v no update tells %v", sort, e)
			}
		}
		if len(seen) != 4 {
			t.Errorf("of %v: %v", sort, seen)
		}
	}
}

func TestP12_2UpdateFirstError(t *testing.T) {
	for _, entries := range []int{2, 3} {
		x := newBoth(t, 2, 2, entries)
		x.update([]byte("aa"), []byte("11"), 0)
		x.update([]byte("bb"), []byte("22"), 0)
		for _, y := range []struct {
			key, value string
			flags      uint64
			e          api.Errno
			keys       string
		}{
			{"", "11", 0, 2, "aa bb"}, {"a", "11", 0, 2, "aa bb"}, {"aaa", "11", 0, 2, "aa bb"}, {"a", "11", 1, 2, "aa bb"}, {"aaa", "11", 1, 2, "aa bb"}, {"aa\x00", "11", 1, 2, "aa bb"}, {"a", "11", 2, 2, "aa bb"}, {"zzz", "11", 2, 2, "aa bb"}, {"zzz", "11", 0, 2, "aa bb"},
			{"aa", "1", 0, 2, "aa bb"}, {"aa", "111", 0, 2, "aa bb"}, {"aa", "", 0, 2, "aa bb"}, {"aa", "1", 1, 2, "aa bb"}, {"aa", "111", 2, 2, "aa bb"}, {"zz", "1", 0, 2, "aa bb"}, {"zz", "111", 1, 2, "aa bb"}, {"zz", "1", 2, 2, "aa bb"}, {"zz", "", 0, 2, "aa bb"},
			{"aa", "11", 3, 2, "aa bb"}, {"aa", "11", 4, 2, "aa bb"}, {"zz", "11", 3, 2, "aa bb"}, {"zz", "11", 5, 2, "aa bb"}, {"aa", "11", math.MaxUint64, 2, "aa bb"}, {"zz", "11", 1 << 63, 2, "aa bb"}, {"aa", "11", 1 << 32, 2, "aa bb"}, {"zz", "11", 1<<32 + 1, 2, "aa bb"}, {"aa", "11", 257, 2, "aa bb"}, {"zz", "11", 258, 2, "aa bb"}, {"zz", "11", 256, 2, "aa bb"},
			{"aa", "33", 1, 7, "aa bb"}, {"aa", "11", 1, 7, "aa bb"},
			{"zz", "33", 2, 6, "aa bb"}, {"aA", "33", 2, 6, "aa bb"},
			{"aa", "44", 0, 0, "bb aa"}, {"bb", "55", 2, 0, "aa bb"}, {"bb", "66", 2, 0, "aa bb"},
		} {
			if e := x.update([]byte(y.key), []byte(y.value), y.flags); e != y.e {
				t.Errorf("of %d: Update(%q, %q, %d): %v; want %v", entries, y.key, y.value, y.flags, e, y.e)
			}
			checkKeys(t, x.l, y.keys)
			x.look()
		}
		x.all()
	}
}

func TestP12_2LookupAndDeleteFirstError(t *testing.T) {
	x := newBoth(t, 2, 1, 3)
	x.update([]byte("aa"), []byte("1"), 0)
	x.update([]byte("bb"), []byte("2"), 0)
	for _, y := range []struct {
		key string
		e   api.Errno
	}{
		{"", 2}, {"a", 2}, {"aaa", 2}, {"z", 2}, {"zzz", 2}, {"aa\x00", 2}, {"aabb", 2}, {"zz", 6}, {"ab", 6}, {"ba", 6}, {"AA", 6}, {"\x00\x00", 6},
	} {
		if e := x.lookup([]byte(y.key)); e != y.e {
			t.Errorf("Lookup(%q): %v; want %v", y.key, e, y.e)
		}
		if e := x.delete([]byte(y.key)); e != y.e {
			t.Errorf("Delete(%q): %v; want %v", y.key, e, y.e)
		}
		checkKeys(t, x.l, "aa bb")
		x.all()
	}
}

// Values of every length.
func TestP12_2UpdateLengths(t *testing.T) {
	for _, size := range []int{1, 2, 255, 256, 1023, 1024} {
		x := newBoth(t, 3, size, 2)
		fits := 0
		for length := range 1300 {
			if x.update([]byte("key"), row(length), uint64(length%2)) == api.OK {
				fits++
			}
			if x.update([]byte("key"), row(length), 2) == api.OK {
				fits++
			}
		}
		x.update([]byte("key"), make([]byte, 1<<16+size), 0)
		x.all()
		if fits != 2 {
			t.Errorf("of %d lengths a value of %d bytes was put", fits, size)
		}
	}
}

// Of lrus whose places are all taken each new key has the eldest one's place, by either flag that lets it in; one that must be there lets none go.
func TestP12_2EldestGoes(t *testing.T) {
	for _, sort := range sorts() {
		entries := min(sort[2], 128)
		x := newBoth(t, sort[0], sort[1], entries)
		x.fill(0, entries)
		x.look()
		for n := range entries {
			next := keyOf(sort[0], entries+n)
			if e := x.update(next, row(sort[1]), 2); e != api.ErrNone {
				t.Fatalf("%v: key %d: %v", sort, entries+n, e)
			}
			x.keys()
			if e := x.update(next, valueOf(sort[1], 500+n), uint64(n%2)); e != api.OK {
				t.Fatalf("%v: key %d: %v", sort, entries+n, e)
			}
			x.keys()
			if at, _ := x.where(next); at != n {
				t.Fatalf("%v: key %d has %d", sort, entries+n, at)
			}
			if e := x.delete(keyOf(sort[0], n)); e != api.ErrNone {
				t.Fatalf("%v: key %d: %v", sort, n, e)
			}
		}
		x.all()
		x.fill(0, entries)
		x.all()
	}
}

// With turned order the eldest keys' places are taken in that order.
func TestP12_2EldestGoesWhereverItIs(t *testing.T) {
	l, _ := lru.New(specOf(1, 1, 4))
	for _, key := range []string{"a", "b", "c", "d"} {
		checkUpdate(t, l, key, key, 1)
	}
	checkLookup(t, l, "a", 0)
	checkUpdate(t, l, "c", "C", 2)
	checkKeys(t, l, "b d a c")
	for _, x := range []struct {
		key, keys string
		place     int
	}{{"e", "d a c e", 1}, {"f", "a c e f", 3}, {"g", "c e f g", 0}, {"b", "e f g b", 2}, {"c", "f g b c", 1}} {
		checkUpdate(t, l, x.key, x.key, 0)
		checkKeys(t, l, x.keys)
		checkLookup(t, l, x.key, x.place)
		checkValue(t, l, x.place, x.key)
		checkKeys(t, l, x.keys)
	}
}

// An lru of one key has the one that was put last.
func TestP12_2OneKey(t *testing.T) {
	x := newBoth(t, 3, 2, 1)
	for n := range 20 {
		key := keyOf(3, n*n)
		x.update(key, valueOf(2, n), uint64(n%2))
		x.look()
		x.lookup(key)
		x.update(key, valueOf(2, n+100), 2)
		x.look()
		if at, there := x.where(key); at != 0 || !there {
			t.Fatalf("key %d: %d, %v", n, at, there)
		}
		if n%3 == 0 {
			x.delete(key)
			x.look()
		}
	}
	x.all()
}

// As many keys as may be, of as many bytes as may be.
func TestP12_2FullOfAll(t *testing.T) {
	for _, size := range []int{2, 64} {
		x := newBoth(t, size, 1024, 1024)
		for n := range 1024 {
			if e := x.update(keyOf(size, 3*n), valueOf(1024, n), 1); e != api.OK {
				t.Fatalf("key %d: %v", n, e)
			}
		}
		x.all()
		for n := 2; n < 3*1024; n += 100 {
			x.lookup(keyOf(size, n))
			x.update(keyOf(size, n), row(1024), 2)
		}
		x.keys()
		for n := 1; n < 3*1024; n += 99 {
			x.update(keyOf(size, n), valueOf(1024, n), 0)
			x.keys()
		}
		x.look()
		for _, n := range []int{1023, 0, 511, 512} {
			x.set(n, 0, []byte("first"))
			x.set(n, 1018, []byte("behind"))
			x.set(n, 1019, []byte("behind"))
			x.delete(keyOf(size, 3*n))
		}
		x.all()
		for n := range 8 {
			x.update(keyOf(size, 3*n+2), valueOf(1024, n), 0)
			x.keys()
		}
		x.all()
	}
}

// Of each choice of places that are free a new key has the least one, then the next, whatever went first; as long as one is free none goes, and behind it the eldest.
func TestP12_2LeastFree(t *testing.T) {
	const entries = 6
	for choice := range 1 << entries {
		for turn := range 3 {
			x := newBoth(t, 2, 2, entries)
			x.fill(0, entries)
			var gone []int
			for n := range entries {
				if choice>>n&1 == 1 {
					gone = append(gone, n)
				}
			}
			order := slices.Clone(gone)
			switch turn {
			case 1:
				slices.Reverse(order)
			case 2:
				shuffle(choice, order)
			}
			for _, n := range order {
				x.delete(keyOf(2, n))
			}
			x.look()
			for i, want := range gone {
				key := keyOf(2, 1000-i)
				x.update(key, valueOf(2, 50+i), uint64(i%2))
				x.look()
				if n, e := x.l.Lookup(key); n != want || e != api.OK {
					t.Fatalf("free %v: the key %d has %d, %v", gone, i, n, e)
				}
				if many := len(x.l.Keys()); many != entries-len(gone)+i+1 {
					t.Fatalf("free %v: %d keys are there", gone, many)
				}
			}
			eldest := x.eldest()
			x.update(keyOf(2, 2000), []byte("no"), 0)
			if n, e := x.l.Lookup(keyOf(2, 2000)); n != eldest || e != api.OK {
				t.Fatalf("free %v: the key behind has %d, %v; want %d", gone, n, e, eldest)
			}
			x.all()
		}
	}
}

// A key that is looked up, or updated, is the youngest, wherever it stood.
func TestP12_2Youngest(t *testing.T) {
	for entries := 1; entries <= 6; entries++ {
		for many := 1; many <= entries; many++ {
			for n := range many {
				for way := range 3 {
					x := newBoth(t, 1, 1, entries)
					x.fill(0, many)
					key := keyOf(1, n)
					switch way {
					case 0:
						x.lookup(key)
					case 1:
						x.update(key, []byte{99}, 0)
					case 2:
						x.update(key, []byte{99}, 2)
					}
					told := x.l.Keys()
					if !bytes.Equal(told[len(told)-1], key) {
						t.Fatalf("of %d keys at %d places: way %d of key %d: %v", many, entries, way, n, told)
					}
					x.look()
					for i := range entries {
						x.update(keyOf(1, 100+i), []byte{byte(i)}, 1)
						x.look()
						if _, there := x.where(key); there != (i < entries-1) {
							t.Fatalf("of %d keys at %d places: way %d of key %d: behind %d others: %v", many, entries, way, n, i+1, there)
						}
					}
				}
			}
		}
	}
}

func TestP12_2YoungestByHand(t *testing.T) {
	l, _ := lru.New(specOf(1, 1, 3))
	checkUpdate(t, l, "a", "1", 0)
	checkLookup(t, l, "a", 0)
	checkKeys(t, l, "a")
	checkUpdate(t, l, "a", "2", 2)
	checkKeys(t, l, "a")
	checkUpdate(t, l, "b", "3", 0)
	checkUpdate(t, l, "c", "4", 0)
	checkLookup(t, l, "c", 2)
	checkKeys(t, l, "a b c")
	checkLookup(t, l, "a", 0)
	checkKeys(t, l, "b c a")
	checkLookup(t, l, "c", 2)
	checkKeys(t, l, "b a c")
	checkUpdate(t, l, "b", "5", 0)
	checkKeys(t, l, "a c b")
	checkUpdate(t, l, "b", "6", 2)
	checkKeys(t, l, "a c b")
	checkUpdate(t, l, "c", "7", 2)
	checkKeys(t, l, "a b c")
	for place, want := range []string{"2", "6", "7"} {
		checkValue(t, l, place, want)
	}
}

// A look-up, an update, a deletion that tells an error makes no key younger, nor lets one go.
func TestP12_2ErrorsMakeNoneYounger(t *testing.T) {
	for _, entries := range []int{3, 4} {
		l, _ := lru.New(specOf(2, 2, entries))
		for _, key := range []string{"aa", "bb", "cc"} {
			checkUpdate(t, l, key, "11", 1)
		}
		for _, key := range []string{"aa", "bb", "cc"} {
			for i, e := range []api.Errno{
				l.Update([]byte(key), []byte("22"), 1), l.Update([]byte(key), []byte("22"), 3), l.Update([]byte(key), []byte("22"), math.MaxUint64), l.Update([]byte(key), []byte("2"), 0), l.Update([]byte(key), []byte("222"), 2), l.Update([]byte(key), nil, 0),
				l.Update([]byte(key[:1]), []byte("22"), 0), l.Update([]byte(key+key), []byte("22"), 2), l.Update([]byte("zz"), []byte("22"), 2), l.Update([]byte("zz"), []byte("22"), 3),
				second(l.Lookup([]byte(key[:1]))), second(l.Lookup([]byte(key + "a"))), second(l.Lookup([]byte("zz"))),
				l.Delete([]byte(key[:1])), l.Delete([]byte(key + key)), l.Delete([]byte("zz")),
			} {
				want := api.ErrArg
				switch i {
				case 0:
					want = api.ErrThere
				case 8, 12, 15:
					want = api.ErrNone
				}
				if e != want {
					t.Errorf("the call %d of %s: %v; want %v", i, key, e, want)
				}
			}
			checkKeys(t, l, "aa bb cc")
		}
		for place := range 3 {
			checkValue(t, l, place, "11")
		}
		checkUpdate(t, l, "dd", "44", 0)
		if entries == 3 {
			checkKeys(t, l, "bb cc dd")
			checkLookup(t, l, "dd", 0)
		} else {
			checkKeys(t, l, "aa bb cc dd")
			checkLookup(t, l, "dd", 3)
		}
	}
}

func second(_ int, e api.Errno) api.Errno {
	return e
}

// A place is free again at once; all others stay, and the bytes there do, till something is put there.
func TestP12_2DeletedBytesStay(t *testing.T) {
	l, _ := lru.New(specOf(1, 3, 2))
	checkUpdate(t, l, "a", "abc", 0)
	checkUpdate(t, l, "b", "xyz", 0)
	checkDelete(t, l, "a")
	checkValue(t, l, 0, "abc")
	checkValue(t, l, 1, "xyz")
	if n, e := l.Lookup([]byte("a")); n != 0 || e != api.ErrNone {
		t.Errorf("Lookup: %d, %v", n, e)
	}
	if e := l.Delete([]byte("a")); e != api.ErrNone {
		t.Errorf("Delete: %v", e)
	}
	if e := l.Update([]byte("a"), []byte("123"), 2); e != api.ErrNone {
		t.Errorf("Update: %v", e)
	}
	checkValue(t, l, 0, "abc")
	if e := l.Set(0, 1, []byte("-")); e != api.OK {
		t.Errorf("Set: %v", e)
	}
	checkValue(t, l, 0, "a-c")
	checkKeys(t, l, "b")
	checkDelete(t, l, "b")
	checkValue(t, l, 0, "a-c")
	checkValue(t, l, 1, "xyz")
	checkKeys(t, l, "")
	checkUpdate(t, l, "c", "456", 1)
	checkValue(t, l, 0, "456")
	checkValue(t, l, 1, "xyz")
	checkKeys(t, l, "c")
}

// Of three keys each may be deleted, be it the eldest, the youngest, the one between, or the only one that is left; the others' order stays.
func TestP12_2DeleteEach(t *testing.T) {
	for _, x := range []struct{ first, next, last, two, one string }{
		{"a", "b", "c", "b c", "c"}, {"a", "c", "b", "b c", "b"}, {"b", "a", "c", "a c", "c"}, {"b", "c", "a", "a c", "a"}, {"c", "a", "b", "a b", "b"}, {"c", "b", "a", "a b", "a"},
	} {
		l, _ := lru.New(specOf(1, 1, 3))
		for _, key := range []string{"a", "b", "c"} {
			checkUpdate(t, l, key, key, 0)
		}
		checkDelete(t, l, x.first)
		checkKeys(t, l, x.two)
		checkDelete(t, l, x.next)
		checkKeys(t, l, x.one)
		checkDelete(t, l, x.last)
		checkKeys(t, l, "")
		for _, key := range []string{"d", "e", "f", "g"} {
			checkUpdate(t, l, key, key, 0)
		}
		checkKeys(t, l, "e f g")
		checkLookup(t, l, "g", 0)
	}
}

// Of each sort of lru keys go one by one, from both ends.
func TestP12_2DeleteAll(t *testing.T) {
	for _, sort := range [][3]int{{1, 1, 1}, {1, 2, 40}, {5, 1, 41}, {64, 3, 17}} {
		x := newBoth(t, sort[0], sort[1], sort[2])
		for turn := range 3 {
			x.fill(turn, sort[2])
			for i := range sort[2] {
				n := turn + i/2
				if i%2 == 1 {
					n = turn + sort[2] - 1 - i/2
				}
				if e := x.delete(keyOf(sort[0], n)); e != api.OK {
					t.Fatalf("%v: key %d: %v", sort, n, e)
				}
				x.delete(keyOf(sort[0], n))
				x.look()
			}
		}
	}
}

func TestP12_3ValuePlaces(t *testing.T) {
	for _, sort := range sorts() {
		x := newBoth(t, sort[0], sort[1], sort[2])
		x.fill(0, min(sort[2], 200))
		x.all()
		for place := -300; place < sort[2]+300; place++ {
			x.value(place)
		}
		x.keys()
	}
}

// Each place and each number of bytes about the edges of a value, of taken places and of free ones.
func TestP12_3SetEdges(t *testing.T) {
	for _, sort := range [][3]int{{1, 1, 1}, {1, 1, 3}, {2, 2, 3}, {1, 3, 2}, {64, 8, 2}, {3, 255, 2}, {1, 1024, 2}} {
		x := newBoth(t, sort[0], sort[1], sort[2])
		x.fill(1, sort[2]/2)
		for _, off := range edges(sort[1]) {
			for _, many := range edges(sort[1]) {
				if many < 0 || many > 1<<12 {
					continue
				}
				for place := -1; place <= sort[2]; place++ {
					x.set(place, off, slices.Repeat([]byte{byte(off) + byte(many) + byte(place) + 1}, many))
					x.look()
				}
			}
		}
	}
}

func TestP12_3SetAllPlaces(t *testing.T) {
	x := newBoth(t, 1, 12, 3)
	x.fill(0, 2)
	x.delete(keyOf(1, 0))
	fits := 0
	for off := -3; off <= 15; off++ {
		for many := range 16 {
			for place := -2; place <= 4; place++ {
				if x.set(place, off, slices.Repeat([]byte{byte(16*off + many + 5*place)}, many)) == api.OK {
					fits++
				}
				x.look()
			}
		}
	}
	if fits != 3*13*14/2 {
		t.Errorf("%d of them fit", fits)
	}
}

func TestP12_3SetFirstError(t *testing.T) {
	const least, greatest = math.MinInt64, math.MaxInt64
	l, _ := lru.New(specOf(1, 4, 2))
	checkUpdate(t, l, "k", "abcd", 0)
	for _, x := range []struct {
		place, off int
		b          string
		e          api.Errno
		one, two   string
	}{
		{0, 4, "", 0, "abcd", "\x00\x00\x00\x00"}, {0, 3, "!", 0, "abc!", "\x00\x00\x00\x00"}, {1, 0, "ABCD", 0, "abc!", "ABCD"}, {1, 3, "3", 0, "abc!", "ABC3"}, {0, 1, "12", 0, "a12!", "ABC3"}, {0, 3, "d", 0, "a12d", "ABC3"},
		{0, 4, "!", 32, "a12d", "ABC3"}, {0, 5, "", 32, "a12d", "ABC3"}, {0, 3, "!!", 32, "a12d", "ABC3"}, {0, 0, "!!!!!", 32, "a12d", "ABC3"}, {0, -1, "", 32, "a12d", "ABC3"}, {0, -1, "!", 32, "a12d", "ABC3"}, {0, -1, "!!", 32, "a12d", "ABC3"}, {1, -4, "!!!!", 32, "a12d", "ABC3"}, {1, 4, "!", 32, "a12d", "ABC3"}, {1, 5, "", 32, "a12d", "ABC3"},
		{0, greatest, "", 32, "a12d", "ABC3"}, {0, greatest, "!", 32, "a12d", "ABC3"}, {0, greatest - 1, "!!", 32, "a12d", "ABC3"}, {0, greatest, "!!!!!", 32, "a12d", "ABC3"}, {0, least, "", 32, "a12d", "ABC3"}, {0, least, "!", 32, "a12d", "ABC3"}, {1, least + 4, "!!!!", 32, "a12d", "ABC3"}, {0, 1 << 32, "!", 32, "a12d", "ABC3"}, {0, 1<<32 + 1, "", 32, "a12d", "ABC3"},
		{2, 0, "!", 6, "a12d", "ABC3"}, {-1, 0, "!", 6, "a12d", "ABC3"}, {2, 0, "", 6, "a12d", "ABC3"}, {-1, 0, "", 6, "a12d", "ABC3"}, {1 << 32, 0, "!", 6, "a12d", "ABC3"}, {greatest, 0, "!", 6, "a12d", "ABC3"}, {least, 0, "!", 6, "a12d", "ABC3"},
		{2, -1, "!", 6, "a12d", "ABC3"}, {2, 5, "", 6, "a12d", "ABC3"}, {-1, 4, "!!!!", 6, "a12d", "ABC3"}, {least, greatest, "!!", 6, "a12d", "ABC3"}, {greatest, least, "", 6, "a12d", "ABC3"}, {-1, 8, "!!!!!", 6, "a12d", "ABC3"},
		{1, 0, "wxyz", 0, "a12d", "wxyz"},
	} {
		if e := l.Set(x.place, x.off, []byte(x.b)); e != x.e {
			t.Errorf("Set(%d, %d, %q): %v; want %v", x.place, x.off, x.b, e, x.e)
		}
		checkValue(t, l, 0, x.one)
		checkValue(t, l, 1, x.two)
		checkKeys(t, l, "k")
	}
}

// Of a place that is none it doesn't matter whether what is to be set would fit.
func TestP12_3NoPlace(t *testing.T) {
	x := newBoth(t, 2, 8, 3)
	x.fill(0, 2)
	for _, place := range x.noPlaces() {
		for _, off := range edges(8) {
			for _, many := range []int{0, 1, 8, 9, 2000} {
				if e := x.set(place, off, row(many)); e != api.ErrNone {
					t.Fatalf("Set(%d, %d, %d bytes): %v", place, off, many, e)
				}
			}
		}
	}
	x.all()
}

// No bytes are alike, nil or not.
func TestP12_3SetNothing(t *testing.T) {
	l, _ := lru.New(specOf(1, 3, 1))
	l.Set(0, 0, []byte("abc"))
	for i, b := range [][]byte{nil, {}, make([]byte, 0, 8), row(8)[8:]} {
		for off := -1; off <= 4; off++ {
			want := api.OK
			if off < 0 || off > 3 {
				want = api.ErrBounds
			}
			if e := l.Set(0, off, b); e != want {
				t.Errorf("%d: Set(0, %d, none): %v", i, off, e)
			}
		}
	}
	checkValue(t, l, 0, "abc")
}

// What is set at a free place makes no key, and stands there until a key's value does.
func TestP12_3FreePlaces(t *testing.T) {
	x := newBoth(t, 1, 4, 4)
	x.update([]byte("a"), []byte("1234"), 0)
	for place := range 4 {
		x.set(place, place, []byte("s"))
		x.all()
	}
	for _, key := range []string{"b", "c", "d"} {
		x.update([]byte(key), []byte("wxyz"), 1)
		x.all()
		x.delete([]byte(key))
		x.set(1, 2, []byte(key))
		x.all()
		x.update([]byte(key), []byte("WXYZ"), 0)
		x.all()
	}
}

// Neither Value nor Set makes a key younger, nor does Keys: the eldest one goes all the same.
func TestP12_3NoneYounger(t *testing.T) {
	for place := range 3 {
		l, _ := lru.New(specOf(1, 2, 3))
		for _, key := range []string{"c", "a", "b"} {
			checkUpdate(t, l, key, "12", 0)
		}
		for range 3 {
			checkValue(t, l, place, "12")
			if e := l.Set(place, 0, []byte("12")); e != api.OK {
				t.Errorf("Set: %v", e)
			}
			checkKeys(t, l, "c a b")
		}
		if e := l.Set(place, 2, nil); e != api.OK {
			t.Errorf("Set: %v", e)
		}
		if e := l.Set(place, 2, []byte("3")); e != api.ErrBounds {
			t.Errorf("Set: %v", e)
		}
		checkKeys(t, l, "c a b")
		checkUpdate(t, l, "d", "34", 0)
		checkKeys(t, l, "a b d")
		checkLookup(t, l, "d", 0)
	}
}

// Keys go from the eldest to the youngest, whatever their bytes and places.
func TestP12_3KeysEldestFirst(t *testing.T) {
	for turn := range 6 {
		x := newBoth(t, 1, 1, 256)
		order := numbers(256)
		shuffle(turn, order)
		for _, n := range order {
			x.update([]byte{byte(n)}, []byte{byte(n)}, 0)
			x.keys()
		}
		for i, key := range x.l.Keys() {
			if len(key) != 1 || int(key[0]) != order[i] {
				t.Fatalf("the key %d is %v; want %d", i, key, order[i])
			}
		}
		shuffle(turn+10, order)
		for i, n := range order {
			if i%2 == 0 {
				x.lookup([]byte{byte(n)})
			} else {
				x.update([]byte{byte(n)}, []byte{byte(i)}, 2)
			}
			x.keys()
		}
		for i, key := range x.l.Keys() {
			if len(key) != 1 || int(key[0]) != order[i] {
				t.Fatalf("the key %d is %v; want %d", i, key, order[i])
			}
		}
	}
}

// Keys are told alike each time, and alike of lrus that were made and asked alike.
func TestP12_3KeysAlike(t *testing.T) {
	x, y := newBoth(t, 4, 1, 500), newBoth(t, 4, 1, 500)
	for _, both := range []*both{x, y} {
		both.fill(0, 700)
		for n := 699; n > 200; n -= 3 {
			both.lookup(keyOf(4, n))
		}
	}
	first := x.l.Keys()
	for range 20 {
		if !slices.EqualFunc(first, x.l.Keys(), bytes.Equal) || !slices.EqualFunc(first, y.l.Keys(), bytes.Equal) {
			t.Fatal("the keys are not those that were told ahead")
		}
	}
	x.all()
	y.all()
}

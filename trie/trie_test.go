package trie_test

import (
	"bytes"
	"math"
	"slices"
	"strings"
	"testing"

	"hatchway/api"
	"hatchway/kinds"
	"hatchway/trie"
)

// The whole of what callers lean on.
var _ interface {
	Lookup(key []byte) (int, api.Errno)
	Update(key, value []byte, flags uint64) api.Errno
	Delete(key []byte) api.Errno
	Value(place int) ([]byte, api.Errno)
	Set(place, off int, b []byte) api.Errno
	Keys() [][]byte
} = new(trie.Trie)

// sorts are tries by the bytes of a key, of a value, and the places: one of each, as many of each as may be, and some between.
func sorts() [][3]int {
	return [][3]int{{5, 1, 1}, {5, 1, 2}, {36, 1, 1}, {5, 1024, 1}, {5, 1, 256}, {6, 1, 1024}, {36, 1024, 1024}, {6, 3, 7}, {8, 8, 16}, {12, 2, 300}, {35, 1023, 3}, {21, 255, 5}}
}

// checkKeys holds the keys against texts of bits; - is that of none.
func checkKeys(t *testing.T, x *trie.Trie, size int, want string) {
	t.Helper()
	var told []string
	for _, key := range x.Keys() {
		text, right := textOf(size, key)
		if !right || !bytes.Equal(key, keyOf(size, text)) {
			t.Errorf("Keys: %v", key)
		}
		told = append(told, text+"-"[:max(0, 1-len(text))])
	}
	if got := strings.Join(told, " "); got != want {
		t.Errorf("Keys: %q; want %q", got, want)
	}
}

func checkValue(t *testing.T, x *trie.Trie, place int, want string) {
	t.Helper()
	if b, e := x.Value(place); string(b) != want || e != api.OK {
		t.Errorf("Value(%d): %q, %v; want %q", place, b, e, want)
	}
}

func checkLookup(t *testing.T, x *trie.Trie, key []byte, place int) {
	t.Helper()
	if n, e := x.Lookup(key); n != place || e != api.OK {
		t.Errorf("Lookup(%v): %d, %v; want %d", key, n, e, place)
	}
}

func checkNone(t *testing.T, x *trie.Trie, key []byte) {
	t.Helper()
	if n, e := x.Lookup(key); n != 0 || e != api.ErrNone {
		t.Errorf("Lookup(%v): %d, %v; want none", key, n, e)
	}
}

func checkUpdate(t *testing.T, x *trie.Trie, key []byte, value string, flags uint64) {
	t.Helper()
	if e := x.Update(key, []byte(value), flags); e != api.OK {
		t.Errorf("Update(%v, %q, %d): %v", key, value, flags, e)
	}
}

func checkDelete(t *testing.T, x *trie.Trie, key []byte) {
	t.Helper()
	if e := x.Delete(key); e != api.OK {
		t.Errorf("Delete(%v): %v", key, e)
	}
}

func checkNew(t *testing.T, s api.MapSpec) *trie.Trie {
	t.Helper()
	want := wantNew(s)
	x, e := trie.New(s)
	if e != want || (x != nil) != (want == api.OK) {
		t.Fatalf("New(%+v): %v, %v; want %v", s, x != nil, e, want)
	}
	if own := kinds.Spec(s); own != api.OK && e != own {
		t.Fatalf("New(%+v): %v; kinds tells %v", s, e, own)
	}
	return x
}

// Each Kind that a byte can be, with parts that are right for some of them, and such as are right for none.
func TestP13_1Kinds(t *testing.T) {
	made := 0
	for kind := range 256 {
		for _, key := range []int{-1, 0, 1, 4, 5, 36, 37, 64, 1 << 32, 1<<32 + 5, math.MinInt64, math.MaxInt64} {
			for _, value := range []int{-1, 0, 1, 8, 1025, 1<<32 + 1, math.MinInt64} {
				for _, entries := range []int{-1, 0, 1, 16, 64, 1025, 16384, 1<<32 + 1, math.MaxInt64} {
					if checkNew(t, api.MapSpec{Kind: api.MapKind(kind), Key: key, Value: value, Entries: entries}) != nil {
						made++
					}
				}
			}
		}
	}
	if made != 2*2*3 {
		t.Errorf("%d tries were made", made)
	}
}

// Each number of keys, of bytes of one, and of bytes of a value.
func TestP13_1Parts(t *testing.T) {
	for n := -3; n <= 1030; n++ {
		checkNew(t, specOf(n, 1, 1))
		checkNew(t, specOf(5, n, 1))
		checkNew(t, specOf(5, 1, n))
		checkNew(t, specOf(36, n, 2))
		checkNew(t, api.MapSpec{Kind: 2, Key: n, Value: 1, Entries: 1})
		checkNew(t, api.MapSpec{Kind: 3, Key: n, Value: 1, Entries: 1})
	}
}

func TestP13_1FirstError(t *testing.T) {
	for _, x := range []struct {
		s api.MapSpec
		e api.Errno
	}{
		{api.MapSpec{}, 9}, {api.MapSpec{Kind: 9}, 9}, {api.MapSpec{Kind: 255, Key: 5, Value: 1, Entries: 1}, 9}, {api.MapSpec{Key: 5, Value: 1, Entries: 1}, 9},
		{api.MapSpec{Kind: 4}, 2}, {specOf(5, 1, 0), 2}, {specOf(5, 0, 1), 2}, {specOf(4, 1, 1), 2}, {specOf(0, 1, 1), 2}, {specOf(1, 1, 1), 2}, {specOf(5, 1, 1025), 2}, {specOf(5, 1025, 1), 2}, {specOf(37, 1, 1), 2}, {specOf(64, 1, 1), 2}, {specOf(5, 1, -1), 2}, {specOf(5, -1, 1), 2}, {specOf(-5, 1, 1), 2},
		{api.MapSpec{Kind: 1}, 2}, {api.MapSpec{Kind: 1, Key: 5, Value: 1, Entries: 1}, 2}, {api.MapSpec{Kind: 2}, 2}, {api.MapSpec{Kind: 2, Key: 65, Value: 1, Entries: 1}, 2}, {api.MapSpec{Kind: 3, Key: 65, Value: 1, Entries: 1}, 2}, {api.MapSpec{Kind: 5, Key: 5, Value: 1, Entries: 1}, 2}, {api.MapSpec{Kind: 7, Key: 5, Value: 1, Entries: 1}, 2}, {api.MapSpec{Kind: 8, Key: 5, Value: 1, Entries: 1}, 2},
		{api.MapSpec{Kind: 1, Key: 4, Value: 1, Entries: 1}, 9}, {api.MapSpec{Kind: 2, Key: 5, Value: 1, Entries: 1}, 9}, {api.MapSpec{Kind: 3, Key: 5, Value: 1, Entries: 1}, 9}, {api.MapSpec{Kind: 5, Value: 1, Entries: 1}, 9}, {api.MapSpec{Kind: 6, Value: 1, Entries: 1}, 9}, {api.MapSpec{Kind: 7, Entries: 16}, 9}, {api.MapSpec{Kind: 8, Key: 4, Value: 8, Entries: 1}, 9},
		{specOf(5, 1, 1), 0}, {specOf(36, 1024, 1024), 0},
	} {
		if y, e := trie.New(x.s); e != x.e || (y != nil) != (e == api.OK) {
			t.Errorf("New(%+v): %v, %v; want %v", x.s, y != nil, e, x.e)
		}
	}
}

// As many places as the make says, of as many bytes, noughts all of them, and no key.
func TestP13_1Noughts(t *testing.T) {
	for _, sort := range sorts() {
		x := newBoth(t, sort[0], sort[1], sort[2])
		x.all()
		for _, key := range keys(sort[0]) {
			x.lookup(key)
			x.delete(key)
			x.update(key, row(sort[1]), 2)
		}
		x.all()
	}
	for n := 1; n <= 1024; n += 11 {
		newBoth(t, 5+n%32, n, 1+n%3).all()
		newBoth(t, 5+n%32, 1+n%5, n).all()
	}
}

// checkNothing asks a trie that is not there for everything, right or wrong.
func checkNothing(t *testing.T, name string, x *trie.Trie) {
	t.Helper()
	values := [][]byte{nil, row(1), row(4), row(5)}
	for _, key := range append(keys(6), []byte{}, keyOf(6, "1"), keyOf(6, ""), keyOf(6, "10")) {
		if n, e := x.Lookup(key); n != 0 || e != api.ErrNil {
			t.Errorf("%s: Lookup(%v): %d, %v", name, key, n, e)
		}
		if e := x.Delete(key); e != api.ErrNil {
			t.Errorf("%s: Delete(%v): %v", name, key, e)
		}
		for _, value := range values {
			for _, flag := range flags() {
				if e := x.Update(key, value, flag); e != api.ErrNil {
					t.Errorf("%s: Update(%v, %v, %d): %v", name, key, value, flag, e)
				}
			}
		}
	}
	for _, place := range edges(3) {
		if b, e := x.Value(place); b != nil || e != api.ErrNil {
			t.Errorf("%s: Value(%d): %v, %v", name, place, b, e)
		}
		for _, off := range edges(4) {
			for _, b := range values {
				if e := x.Set(place, off, b); e != api.ErrNil {
					t.Errorf("%s: Set(%d, %d, %v): %v", name, place, off, b, e)
				}
			}
		}
	}
	if keys := x.Keys(); len(keys) != 0 {
		t.Errorf("%s: Keys: %v", name, keys)
	}
}

// What New did not answer is no trie.
func TestP13_1NoTrie(t *testing.T) {
	var none *trie.Trie
	checkNothing(t, "nil", none)
	checkNothing(t, "zero", &trie.Trie{})
	checkNothing(t, "new", new(trie.Trie))
	tries := make([]trie.Trie, 2)
	checkNothing(t, "of a slice", &tries[1])
	x := newBoth(t, 6, 4, 4)
	x.fill(0, 2)
	x.update(keyOf(6, "11"), []byte("abcd"), 0)
	copied := *x.x
	checkNothing(t, "a copy", &copied)
	x.all()
	x.set(2, 1, []byte("xy"))
	x.update(keyOf(6, "10"), []byte("wxyz"), 0)
	checkNothing(t, "a copy", &copied)
	x.all()
}

func TestP13_2Example(t *testing.T) {
	x, e := trie.New(api.MapSpec{Kind: api.MapTrie, Key: 8, Value: 1, Entries: 4})
	if x == nil || e != api.OK {
		t.Fatalf("New: %v, %v", x != nil, e)
	}
	checkUpdate(t, x, []byte{8, 0, 0, 0, 10, 0, 0, 0}, "a", api.FlagAny)
	checkUpdate(t, x, []byte{16, 0, 0, 0, 10, 1, 0, 0}, "b", api.FlagAny)
	checkLookup(t, x, []byte{32, 0, 0, 0, 10, 1, 2, 3}, 1)
	checkLookup(t, x, []byte{32, 0, 0, 0, 10, 2, 0, 0}, 0)
	checkNone(t, x, []byte{32, 0, 0, 0, 11, 0, 0, 0})
	checkValue(t, x, 0, "a")
	checkValue(t, x, 1, "b")
}

// Tries of each Key, and of each number of bits up to two bytes more than there is room for: only so many as there is room for are right.
func TestP13_2EachNumberOfBits(t *testing.T) {
	for size := 5; size <= 36; size++ {
		room := 8 * (size - 4)
		x := newBoth(t, size, 1, 2)
		x.update(keyOf(size, ""), []byte{1}, 0)
		for many := range room + 17 {
			key := headed(size, uint32(many), 0x96)
			want, flag := api.OK, uint64(many%2)
			if many > room {
				want = api.ErrArg
			} else if many == 0 {
				flag = 2
			}
			_, e := x.lookup(key)
			if f := x.update(key, []byte{byte(many)}, flag); e != want || f != want {
				t.Fatalf("%d bits of %d: Lookup tells %v, Update %v; want %v", many, room, e, f, want)
			}
			x.look()
			x.lookup(key)
			if many != 0 {
				if e := x.delete(key); e != want {
					t.Fatalf("%d bits of %d: Delete tells %v; want %v", many, room, e, want)
				}
			}
			x.look()
		}
	}
}

// The bytes of the number of bits count, all four, the lowest first: 256 bits are right of 36 bytes alone.
func TestP13_2HighBytes(t *testing.T) {
	for _, size := range []int{5, 6, 8, 12, 20, 35, 36} {
		x := newBoth(t, size, 1, 3)
		x.update(keyOf(size, ""), []byte{1}, 0)
		x.update(keyOf(size, "00001010"), []byte{2}, 0)
		right := 0
		for at := 1; at < 4; at++ {
			for high := 1; high < 256; high++ {
				for _, low := range []byte{0, 1, 8, byte(8 * (size - 4)), 128, 255} {
					key := headed(size, uint32(low), 10)
					key[at] = byte(high)
					n, e := x.lookup(key)
					if e == api.OK {
						right++
						if n != 1 {
							t.Fatalf("%v has %d", key, n)
						}
						continue
					}
					if f, g := x.update(key, []byte{3}, 0), x.delete(key); e != api.ErrArg || f != api.ErrArg || g != api.ErrArg {
						t.Fatalf("%v: %v, %v, %v", key, e, f, g)
					}
				}
			}
		}
		if want := map[int]int{36: 2}[size]; right != want {
			t.Errorf("of %d bytes %d keys are right; want %d", size, right, want)
		}
		x.all()
	}
}

// Keys of each number of bytes: only those of Key bytes are asked for, the others are wrong, those that are there with a byte less or more, too.
func TestP13_2KeyLengths(t *testing.T) {
	for size := 5; size <= 36; size++ {
		x := newBoth(t, size, 1, 3)
		x.update(keyOf(size, ""), []byte{1}, 0)
		x.update(headed(size, 8, 10), []byte{2}, 0)
		seen := map[api.Errno]int{}
		for length := range 100 {
			for _, key := range [][]byte{headed(length, 8, 10), headed(length, 0, 0), make([]byte, length), slices.Repeat([]byte{255}, length)} {
				_, e := x.lookup(key)
				seen[e]++
				x.update(key, []byte{3}, 2)
				if length != size {
					seen[x.update(key, []byte{4}, 0)]++
					seen[x.update(key, []byte{4}, 1)]++
					seen[x.delete(key)]++
				}
				x.keys()
			}
		}
		x.all()
		if seen[api.OK] != 3 || seen[api.ErrArg] != 4*4*99+1 || len(seen) != 2 {
			t.Errorf("of keys of %d bytes: %v", size, seen)
		}
	}
}

// Keys that differ only in bits that don't count are one, by each call; what Keys tells has noughts there.
func TestP13_2BitsThatDoNotCount(t *testing.T) {
	for _, size := range []int{5, 6, 7, 12, 36} {
		room := 8 * (size - 4)
		for _, many := range []int{0, 1, 2, 7, 8, 9, 15, 16, room / 2, room - 9, room - 8, room - 1, room} {
			if many < 0 || many > room {
				continue
			}
			for i, start := range []string{"0", "1", "10", "0001011"} {
				text := strings.Repeat(start, room)[:many]
				x := newBoth(t, size, 1, 3)
				noises := []byte{0, 255, 0x55, 0xaa, 0x80, 1, 0x7f, 0xfe}
				for n, noise := range noises {
					key := noisy(size, text, noise)
					if e := x.update(key, []byte{noise}, 0); e != api.OK {
						t.Fatalf("%v: %v", key, e)
					}
					if e := x.update(key, []byte{noise}, 1); e != api.ErrThere {
						t.Fatalf("%v: %v", key, e)
					}
					if e := x.update(noisy(size, text, noises[n/2]), []byte{noise ^ 3}, 2); e != api.OK {
						t.Fatalf("%v: %v", key, e)
					}
					for _, other := range noises {
						x.lookup(noisy(size, text, other))
					}
					x.all()
				}
				if e := x.delete(noisy(size, text, noises[2*i])); e != api.OK {
					t.Fatalf("%q: %v", text, e)
				}
				x.all()
				if e := x.delete(noisy(size, text, noises[2*i+1])); e != api.ErrNone {
					t.Fatalf("%q: %v", text, e)
				}
			}
		}
	}
}

// Each bit that counts does, and none else: a key is another than the one with that bit turned, if it has so many.
func TestP13_2EachBit(t *testing.T) {
	for _, size := range []int{5, 6, 8, 36} {
		room := 8 * (size - 4)
		for many := 0; many <= room; many += 1 + many/24 {
			key := headed(size, uint32(many), 0x35)
			x := newBoth(t, size, 1, 2)
			x.update(key, []byte{1}, 1)
			for bit := range room {
				other := bytes.Clone(key)
				other[4+bit/8] ^= worths[bit%8]
				want := api.OK
				if bit < many {
					want = api.ErrNone
				}
				if _, e := x.lookup(other); e != want {
					t.Fatalf("of %v and %v, the bit %d turned: %v; want %v", key, other, bit, e, want)
				}
				if e := x.update(other, []byte{2}, 2); e != want {
					t.Fatalf("of %v and %v, the bit %d turned: %v; want %v", key, other, bit, e, want)
				}
			}
			x.all()
		}
	}
}

// Keys of the same bytes, but of other numbers of bits, are as many keys; each is the longest beginning of those behind it, until the next one is there.
func TestP13_2OtherNumbersOfBits(t *testing.T) {
	for _, size := range []int{5, 6, 20, 36} {
		room := 8 * (size - 4)
		for _, noise := range []byte{0, 255, 0x96} {
			for way := range 3 {
				x := newBoth(t, size, 2, room+1)
				order := numbers(room + 1)
				switch way {
				case 1:
					slices.Reverse(order)
				case 2:
					shuffle(size, order)
				}
				for i, many := range order {
					if e := x.update(headed(size, uint32(many), noise), valueOf(2, many), 1); e != api.OK {
						t.Fatalf("%d bits: %v", many, e)
					}
					if i%16 == 0 || i == room {
						for other := range room + 1 {
							x.lookup(headed(size, uint32(other), noise))
						}
						x.look()
					}
				}
				if told := x.x.Keys(); len(told) != room+1 {
					t.Fatalf("%d keys", len(told))
				}
				for i, many := range order {
					if n, e := x.lookup(headed(size, uint32(many), noise)); n != i || e != api.OK {
						t.Fatalf("%d bits: %d, %v", many, n, e)
					}
				}
				for i, many := range order[:room] {
					if e := x.delete(headed(size, uint32(many), noise)); e != api.OK {
						t.Fatalf("%d bits: %v", many, e)
					}
					if i%16 == 0 {
						for other := range room + 1 {
							x.lookup(headed(size, uint32(other), noise))
						}
						x.look()
					}
				}
			}
		}
	}
}

// A key that begins another one, put before it or behind it.
func TestP13_2BeginningsBeforeAndBehind(t *testing.T) {
	for _, texts := range [][2]string{{"", "1"}, {"", "0"}, {"0", "00"}, {"1", "10"}, {"1", "10110011"}, {"1011001", "10110011"}, {"10110011", "101100110"}, {"10110011", "1011001101010101"}, {"", "1011001101010101"}, {"101100110101010", "1011001101010101"}} {
		for first := range 2 {
			x, _ := trie.New(specOf(6, 1, 2))
			short, long := keyOf(6, texts[0]), keyOf(6, texts[1])
			places := [2]int{first, 1 - first}
			for i := range 2 {
				if i == places[0] {
					checkUpdate(t, x, short, "s", 1)
				} else {
					checkUpdate(t, x, long, "l", 1)
				}
			}
			checkLookup(t, x, short, places[0])
			checkLookup(t, x, long, places[1])
			checkValue(t, x, places[0], "s")
			checkValue(t, x, places[1], "l")
			told := texts[0] + "-"[:max(0, 1-len(texts[0]))]
			checkKeys(t, x, 6, told+" "+texts[1])
			y := *newBoth(t, 6, 1, 1)
			y.update(short, []byte("s"), 0)
			if n, e := y.lookup(long); n != 0 || e != api.OK {
				t.Errorf("%q: %d, %v", texts, n, e)
			}
			y.delete(short)
			y.update(long, []byte("l"), 0)
			if n, e := y.lookup(short); n != 0 || e != api.ErrNone {
				t.Errorf("%q: %d, %v", texts, n, e)
			}
		}
	}
}

// Of a key several beginnings are there, only the one of no bits, only the key itself, only longer ones, none.
func TestP13_2WhichAreThere(t *testing.T) {
	for _, y := range []struct {
		there []string
		key   string
		place int
	}{
		{[]string{"", "1", "10", "101"}, "1011", 3}, {[]string{"", "1", "10", "101"}, "101", 3}, {[]string{"101", "10", "1", ""}, "1011", 0}, {[]string{"101", "10", "1", ""}, "100", 1}, {[]string{"101", "10", "1", ""}, "11", 2}, {[]string{"101", "10", "1", ""}, "0", 3},
		{[]string{"1", "101100110", "101"}, "1011001100", 1}, {[]string{"1", "101100110", "101"}, "101100111", 2}, {[]string{"1", "101100110", "101"}, "10110011", 2}, {[]string{"10110011", "1011001101010101"}, "101100110101010", 0}, {[]string{"10110011", "1011001101010101"}, "1011001101010101", 1}, {[]string{"10110011", "1011001101010101"}, "1011001101010100", 0},
		{[]string{""}, "", 0}, {[]string{""}, "0", 0}, {[]string{""}, "1", 0}, {[]string{"0", ""}, "1011001101010101", 1}, {[]string{"1011", ""}, "1010", 1}, {[]string{"1011", ""}, "101", 1}, {[]string{"1011", ""}, "", 1}, {[]string{"1", ""}, "0", 1},
		{[]string{"1011"}, "1011", 0}, {[]string{"0", "1"}, "1", 1}, {[]string{"0", "1"}, "0", 0}, {[]string{"0", "1011001101010101"}, "1011001101010101", 1},
		{[]string{"1011"}, "101", -1}, {[]string{"1011"}, "1", -1}, {[]string{"1011"}, "", -1}, {[]string{"0", "1"}, "", -1}, {[]string{"10", "11"}, "1", -1}, {[]string{"1011001101010101"}, "101100110101010", -1}, {[]string{"101100110"}, "10110011", -1}, {[]string{"00000000"}, "0000000", -1},
		{nil, "", -1}, {nil, "0", -1}, {nil, "1011001101010101", -1}, {[]string{"1"}, "0", -1}, {[]string{"0"}, "1", -1}, {[]string{"1011"}, "1010", -1}, {[]string{"1011"}, "10101", -1}, {[]string{"1011001101010101"}, "1011001101010100", -1}, {[]string{"10110011"}, "1011001001010101", -1}, {[]string{"00"}, "01", -1}, {[]string{"00", "10", "11"}, "01", -1},
	} {
		x, _ := trie.New(specOf(6, 1, 4))
		for i, text := range y.there {
			checkUpdate(t, x, keyOf(6, text), string(rune('a'+i)), 1)
		}
		for _, noise := range []byte{0, 255, 0xb3, 0x4c} {
			if y.place < 0 {
				checkNone(t, x, noisy(6, y.key, noise))
			} else {
				checkLookup(t, x, noisy(6, y.key, noise), y.place)
			}
		}
	}
}

// Each choice of a key's beginnings, put from the shortest on, from the longest on, or in another order; then all go, in another one.
func TestP13_2EachChoiceOfBeginnings(t *testing.T) {
	const text = "10110010"
	for choice := range 1 << 9 {
		var lengths []int
		for n := range 9 {
			if choice>>n&1 == 1 {
				lengths = append(lengths, n)
			}
		}
		x := newBoth(t, 5, 1, 9)
		ask := func() {
			for n := range 9 {
				x.lookup(noisy(5, text[:n], byte(choice)))
				for off := range n {
					x.lookup(noisy(5, turned(text[:n], off), byte(choice)))
				}
			}
			x.keys()
		}
		switch choice % 3 {
		case 1:
			slices.Reverse(lengths)
		case 2:
			shuffle(choice, lengths)
		}
		for i, n := range lengths {
			x.update(keyOf(5, text[:n]), []byte{byte(i + 1)}, 1)
		}
		ask()
		shuffle(choice+1, lengths)
		for _, n := range lengths {
			x.delete(keyOf(5, text[:n]))
			ask()
		}
		x.look()
	}
}

// Two keys part at each bit, the first, the last, those at a byte's edge among them; what both begin with is there or not; one of them goes, and comes again.
func TestP13_2PartAtEachBit(t *testing.T) {
	for _, size := range []int{5, 6, 8, 36} {
		room := 8 * (size - 4)
		text := strings.Repeat("1101001100010", room)[:room]
		for bit := range room {
			for _, behind := range []int{bit + 1, min(bit+8, room), room} {
				one, two := text[:behind], turned(text[:behind], bit)
				for way := range 3 {
					x := newBoth(t, size, 1, 3)
					if way == 1 {
						x.update(keyOf(size, text[:bit]), []byte{1}, 0)
					}
					x.update(keyOf(size, one), []byte{2}, 1)
					if _, e := x.lookup(keyOf(size, two)); (e == api.OK) != (way == 1) {
						t.Fatalf("%q and %q: %v", one, two, e)
					}
					x.update(keyOf(size, two), []byte{3}, 1)
					if way == 2 {
						x.update(keyOf(size, text[:bit]), []byte{1}, 0)
					}
					x.all()
					x.delete(keyOf(size, one))
					x.all()
					x.update(keyOf(size, one), []byte{4}, 1)
					x.delete(keyOf(size, two))
					x.delete(keyOf(size, text[:bit]))
					x.all()
				}
			}
		}
	}
}

// Keys, values and flags, right and wrong, each with each, of tries that have room for all of them and of such as have not.
func TestP13_2UpdateEach(t *testing.T) {
	for _, sort := range [][3]int{{5, 1, 1}, {5, 2, 9}, {6, 3, 4}, {8, 1, 300}, {36, 5, 6}, {7, 1024, 2}} {
		x := newBoth(t, sort[0], sort[1], sort[2])
		seen := map[api.Errno]int{}
		for _, flag := range append([]uint64{2, 1}, flags()...) {
			for _, size := range []int{0, 1, sort[1] - 1, sort[1], sort[1] + 1, 2 * sort[1], sort[1] + 256, 1024} {
				for i, key := range keys(sort[0]) {
					value := row(size + i)[i:]
					seen[x.update(key, value, flag)]++
				}
				x.keys()
			}
			x.look()
		}
		x.all()
		wanted := []api.Errno{api.OK, api.ErrArg, api.ErrNone, api.ErrThere, api.ErrFull}
		if sort[2] == 300 {
			wanted = wanted[:4]
		}
		for _, e := range wanted {
			if seen[e] == 0 {
				t.Errorf("of %v no update tells %v", sort, e)
			}
		}
		if len(seen) != len(wanted) {
			t.Errorf("of %v: %v", sort, seen)
		}
	}
}

// Flags of keys that are there and of such as are not: whether a key's beginnings, or longer ones, are there doesn't matter.
func TestP13_2Flags(t *testing.T) {
	for _, there := range [][]string{nil, {""}, {"1"}, {"1", "10"}, {"1011"}, {"10110", "10111"}, {"1010", "101"}, {"", "1", "10", "1011", "10100", "1011001"}} {
		for _, flag := range flags() {
			x := newBoth(t, 6, 1, 8)
			for i, text := range there {
				x.update(keyOf(6, text), []byte{byte(i + 1)}, 1)
			}
			for _, turn := range []struct {
				there bool
				wants [3]api.Errno
			}{{false, [3]api.Errno{0, 0, 6}}, {true, [3]api.Errno{0, 7, 0}}} {
				want := api.ErrArg
				if flag <= 2 {
					want = turn.wants[flag]
				}
				key := keyOf(6, "101")
				if _, e := x.where("101"); e && !turn.there {
					x.delete(key)
				}
				if turn.there {
					x.update(key, []byte("?"), 0)
				}
				if e := x.update(key, []byte("!"), flag); e != want {
					t.Fatalf("%q, %v: flags %d: %v; want %v", there, turn.there, flag, e, want)
				}
				x.all()
			}
		}
	}
}

func TestP13_2UpdateFirstError(t *testing.T) {
	full, open := newBoth(t, 5, 2, 2), newBoth(t, 5, 2, 3)
	for _, x := range []*both{full, open} {
		x.update(keyOf(5, "1"), []byte("11"), 0)
		x.update(keyOf(5, "1010"), []byte("22"), 0)
		for _, y := range []struct {
			key   []byte
			value string
			flags uint64
			e     api.Errno
		}{
			{nil, "11", 0, 2}, {[]byte{1}, "11", 0, 2}, {[]byte{1, 0, 0, 0}, "11", 0, 2}, {[]byte{1, 0, 0, 0}, "11", 1, 2}, {[]byte{1, 0, 0, 0}, "11", 2, 2}, {[]byte{1, 0, 0, 0, 128, 0}, "11", 0, 2}, {[]byte{1, 0, 0, 0, 128, 0}, "11", 1, 2}, {[]byte{2, 0, 0, 0, 0, 0}, "11", 2, 2}, {[]byte{2, 0, 0, 0, 0, 0}, "11", 0, 2},
			{[]byte{9, 0, 0, 0, 128}, "11", 0, 2}, {[]byte{9, 0, 0, 0, 128}, "11", 2, 2}, {[]byte{255, 0, 0, 0, 128}, "11", 1, 2}, {[]byte{1, 1, 0, 0, 128}, "11", 1, 2}, {[]byte{1, 0, 1, 0, 128}, "11", 2, 2}, {[]byte{1, 0, 0, 1, 128}, "11", 0, 2}, {[]byte{1, 0, 0, 128, 128}, "11", 2, 2}, {[]byte{0, 1, 0, 0, 128}, "11", 2, 2}, {[]byte{255, 255, 255, 255, 128}, "11", 1, 2}, {[]byte{0, 0, 0, 255, 0}, "11", 0, 2},
			{keyOf(5, "1"), "1", 0, 2}, {keyOf(5, "1"), "111", 0, 2}, {keyOf(5, "1"), "", 0, 2}, {keyOf(5, "1"), "1", 1, 2}, {keyOf(5, "1"), "111", 2, 2}, {keyOf(5, "0"), "1", 0, 2}, {keyOf(5, "0"), "111", 1, 2}, {keyOf(5, "0"), "1", 2, 2}, {keyOf(5, ""), "", 0, 2},
			{keyOf(5, "1"), "11", 3, 2}, {keyOf(5, "1"), "11", 4, 2}, {keyOf(5, "0"), "11", 3, 2}, {keyOf(5, "0"), "11", 5, 2}, {keyOf(5, "1"), "11", math.MaxUint64, 2}, {keyOf(5, "0"), "11", 1 << 63, 2}, {keyOf(5, "1"), "11", 1 << 32, 2}, {keyOf(5, "0"), "11", 1<<32 + 1, 2}, {keyOf(5, "1"), "11", 257, 2}, {keyOf(5, "0"), "11", 258, 2}, {keyOf(5, "0"), "11", 256, 2},
			{keyOf(5, "1"), "33", 1, 7}, {keyOf(5, "1"), "11", 1, 7}, {keyOf(5, "1010"), "33", 1, 7},
			{keyOf(5, "0"), "33", 2, 6}, {keyOf(5, "10"), "33", 2, 6}, {keyOf(5, "101"), "33", 2, 6}, {keyOf(5, ""), "33", 2, 6}, {keyOf(5, "10100"), "33", 2, 6},
		} {
			if e := x.update(y.key, []byte(y.value), y.flags); e != y.e {
				t.Errorf("of %d: Update(%v, %q, %d): %v; want %v", len(x.places), y.key, y.value, y.flags, e, y.e)
			}
			checkKeys(t, x.x, 5, "1 1010")
			x.all()
		}
	}
	for _, text := range []string{"0", "10", "101", "", "10100", "10101111"} {
		for flag := range uint64(2) {
			if e := full.update(keyOf(5, text), []byte("33"), flag); e != api.ErrFull {
				t.Errorf("Update(%q): %v", text, e)
			}
			checkKeys(t, full.x, 5, "1 1010")
			full.all()
		}
	}
	if e := full.update(keyOf(5, "1010"), []byte("44"), 2); e != api.OK {
		t.Errorf("Update: %v", e)
	}
	if e := full.update(keyOf(5, "1"), []byte("55"), 0); e != api.OK {
		t.Errorf("Update: %v", e)
	}
	full.all()
}

func TestP13_2LookupAndDeleteFirstError(t *testing.T) {
	x := newBoth(t, 6, 1, 3)
	x.update(keyOf(6, "1"), []byte("1"), 0)
	x.update(keyOf(6, "1010101010"), []byte("2"), 0)
	for _, y := range []struct {
		key  []byte
		e, f api.Errno
	}{
		{nil, 2, 2}, {[]byte{1, 0, 0, 0}, 2, 2}, {[]byte{1, 0, 0, 0, 128}, 2, 2}, {[]byte{1, 0, 0, 0, 128, 0, 0}, 2, 2}, {[]byte{2, 0, 0, 0, 64}, 2, 2}, {[]byte{2, 0, 0, 0, 64, 0, 0}, 2, 2},
		{[]byte{17, 0, 0, 0, 128, 0}, 2, 2}, {[]byte{17, 0, 0, 0, 0, 0}, 2, 2}, {[]byte{255, 0, 0, 0, 128, 0}, 2, 2}, {[]byte{1, 1, 0, 0, 128, 0}, 2, 2}, {[]byte{1, 0, 1, 0, 128, 0}, 2, 2}, {[]byte{1, 0, 0, 1, 128, 0}, 2, 2}, {[]byte{1, 0, 0, 128, 128, 0}, 2, 2}, {[]byte{255, 255, 255, 255, 0, 0}, 2, 2},
		{keyOf(6, ""), 6, 6}, {keyOf(6, "0"), 6, 6}, {keyOf(6, "01"), 6, 6}, {keyOf(6, "0010101010"), 6, 6},
		{keyOf(6, "10"), 0, 6}, {keyOf(6, "11"), 0, 6}, {keyOf(6, "101010101"), 0, 6}, {keyOf(6, "10101010101"), 0, 6}, {keyOf(6, "1010101011"), 0, 6}, {keyOf(6, "1010101010101010"), 0, 6},
	} {
		if _, e := x.lookup(y.key); e != y.e {
			t.Errorf("Lookup(%v): %v; want %v", y.key, e, y.e)
		}
		if e := x.delete(y.key); e != y.f {
			t.Errorf("Delete(%v): %v; want %v", y.key, e, y.f)
		}
		checkKeys(t, x.x, 6, "1 1010101010")
		x.all()
	}
}

// Values of every length.
func TestP13_2UpdateLengths(t *testing.T) {
	for _, size := range []int{1, 2, 255, 256, 1023, 1024} {
		x := newBoth(t, 7, size, 2)
		key := keyOf(7, "0110")
		fits := 0
		for length := range 1300 {
			if x.update(key, row(length), uint64(length%2)) == api.OK {
				fits++
			}
			if x.update(key, row(length), 2) == api.OK {
				fits++
			}
		}
		x.update(key, make([]byte, 1<<16+size), 0)
		x.all()
		if fits != 2 {
			t.Errorf("of %d lengths a value of %d bytes was put", fits, size)
		}
	}
}

// Tries whose places are all taken: no new key comes in, by neither flag that might let it in, those that are there are updated; when one goes, one comes.
func TestP13_2Full(t *testing.T) {
	for _, sort := range sorts() {
		entries := min(sort[2], 200)
		x := newBoth(t, sort[0], sort[1], entries)
		x.fill(0, entries)
		x.all()
		for n := range entries {
			next := keyOf(sort[0], nth(entries+n))
			for flag, want := range []api.Errno{api.ErrFull, api.ErrFull, api.ErrNone} {
				if e := x.update(next, row(sort[1]), uint64(flag)); e != want {
					t.Fatalf("%v: key %d, flags %d: %v", sort, entries+n, flag, e)
				}
			}
			x.lookup(next)
			if e := x.update(keyOf(sort[0], nth(n)), valueOf(sort[1], 500+n), uint64(n%2)*2); e != api.OK {
				t.Fatalf("%v: key %d: %v", sort, n, e)
			}
			x.keys()
		}
		x.all()
		for n := range entries {
			next := keyOf(sort[0], nth(entries+n))
			x.delete(keyOf(sort[0], nth(n)))
			if e := x.update(next, valueOf(sort[1], n), uint64(n%2)); e != api.OK {
				t.Fatalf("%v: key %d: %v", sort, entries+n, e)
			}
			if at, _ := x.where(nth(entries + n)); at != n {
				t.Fatalf("%v: key %d has %d", sort, entries+n, at)
			}
			x.keys()
		}
		x.all()
	}
}

// A trie of one key has one, until it goes.
func TestP13_2OneKey(t *testing.T) {
	x := newBoth(t, 8, 2, 1)
	for n := range 40 {
		key := keyOf(8, nth(n*n))
		if e := x.update(key, valueOf(2, n), uint64(n%2)); e != api.OK {
			t.Fatalf("key %d: %v", n, e)
		}
		x.all()
		x.update(keyOf(8, nth(n*n)+"0"), valueOf(2, n), 0)
		x.update(keyOf(8, nth(n*n)+"1"), valueOf(2, n), 1)
		x.update(key, valueOf(2, n+100), 2)
		x.all()
		x.delete(key)
		x.all()
		x.lookup(key)
	}
}

// As many keys as may be, of as many bytes as may be.
func TestP13_2FullOfAll(t *testing.T) {
	const size = 36
	x := newBoth(t, size, 1024, 1024)
	for n := range 1024 {
		if e := x.update(noisy(size, deep(size, n), byte(n)), valueOf(1024, n), 1); e != api.OK {
			t.Fatalf("key %d: %v", n, e)
		}
	}
	x.all()
	for n := 1000; n < 1100; n++ {
		x.lookup(keyOf(size, deep(size, n)))
		x.update(keyOf(size, deep(size, n)), row(1024), 2)
		x.update(keyOf(size, deep(size, n)), row(1024), 0)
	}
	x.all()
	for _, n := range []int{1023, 0, 511, 512} {
		x.set(n, 0, []byte("first"))
		x.set(n, 1018, []byte("behind"))
		x.set(n, 1019, []byte("behind"))
		x.delete(keyOf(size, deep(size, n)))
	}
	x.all()
	for n := 1200; n < 1205; n++ {
		x.update(keyOf(size, deep(size, n)), valueOf(1024, n), 0)
		x.keys()
	}
	x.all()
}

// Keys of 256 bits, as many as may be, that part at their last bits, or at their first.
func TestP13_2LongestKeys(t *testing.T) {
	const size, room = 36, 256
	for way := range 2 {
		x := newBoth(t, size, 1, 1024)
		text := func(n int) string {
			few, many := deep(6, n)[:11], strings.Repeat("10", room)[:room-11]
			if way == 0 {
				return many + few
			}
			return few + many
		}
		for n := range 1024 {
			if e := x.update(keyOf(size, text(n)), []byte{byte(n)}, 1); e != api.OK {
				t.Fatalf("key %d: %v", n, e)
			}
		}
		x.all()
		for n := range 1024 {
			if at, e := x.lookup(keyOf(size, text(n))); at != n || e != api.OK {
				t.Fatalf("key %d: %d, %v", n, at, e)
			}
			if _, e := x.lookup(keyOf(size, text(n)[:room-1])); e != api.ErrNone {
				t.Fatalf("key %d but one bit: %v", n, e)
			}
			if n%2 == 0 {
				x.delete(keyOf(size, text(n)))
			}
		}
		x.all()
		x.update(keyOf(size, ""), []byte{1}, 0)
		x.update(keyOf(size, text(1)[:room-1]), []byte{2}, 0)
		x.all()
	}
}

// Of each choice of places that are free a new key has the least one, then the next, whatever went first.
func TestP13_2LeastFree(t *testing.T) {
	const entries = 6
	for choice := range 1 << entries {
		for turn := range 3 {
			x := newBoth(t, 6, 2, entries)
			x.fill(0, entries)
			var gone []int
			for n := range entries {
				if choice>>n&1 == 1 {
					gone = append(gone, n)
				}
			}
			order := slices.Clone(gone)
			switch turn {
			case 1:
				slices.Reverse(order)
			case 2:
				shuffle(choice, order)
			}
			for _, n := range order {
				x.delete(keyOf(6, nth(n)))
			}
			x.look()
			for i, want := range gone {
				key := keyOf(6, nth(1000-i))
				x.update(key, valueOf(2, 50+i), uint64(i%2))
				x.look()
				checkLookup(t, x.x, key, want)
				checkValue(t, x.x, want, string(valueOf(2, 50+i)))
			}
			if e := x.update(keyOf(6, nth(2000)), []byte("no"), 0); e != api.ErrFull {
				t.Fatalf("free %v: the key behind: %v", gone, e)
			}
			x.all()
		}
	}
}

// A place is free again at once; all others stay, and the bytes there do, till something is put there.
func TestP13_2DeletedBytesStay(t *testing.T) {
	x, _ := trie.New(specOf(5, 3, 2))
	one, two, three := keyOf(5, "10"), keyOf(5, "101"), keyOf(5, "0")
	checkUpdate(t, x, one, "abc", 0)
	checkUpdate(t, x, two, "xyz", 0)
	checkDelete(t, x, one)
	checkValue(t, x, 0, "abc")
	checkValue(t, x, 1, "xyz")
	checkNone(t, x, one)
	checkLookup(t, x, two, 1)
	if e := x.Delete(one); e != api.ErrNone {
		t.Errorf("Delete: %v", e)
	}
	if e := x.Update(one, []byte("123"), 2); e != api.ErrNone {
		t.Errorf("Update: %v", e)
	}
	checkValue(t, x, 0, "abc")
	if e := x.Set(0, 1, []byte("-")); e != api.OK {
		t.Errorf("Set: %v", e)
	}
	checkValue(t, x, 0, "a-c")
	checkKeys(t, x, 5, "101")
	checkDelete(t, x, two)
	checkValue(t, x, 0, "a-c")
	checkValue(t, x, 1, "xyz")
	checkKeys(t, x, 5, "")
	checkNone(t, x, two)
	checkUpdate(t, x, three, "456", 1)
	checkValue(t, x, 0, "456")
	checkValue(t, x, 1, "xyz")
	checkKeys(t, x, 5, "0")
}

// A key goes whose beginnings stay, or longer ones, or both; look-ups fall back on the next beginning; it comes again, at the least free place.
func TestP13_2DeletedAndPutAgain(t *testing.T) {
	for _, stays := range [][]string{nil, {""}, {"1"}, {"10"}, {"1011"}, {"1010"}, {"10110", "10111"}, {"", "10", "1011"}, {"10", "100", "1010", "1011"}, {"0", "11", "100"}, {"1011001101010101", ""}} {
		for first := range len(stays) + 1 {
			x := newBoth(t, 6, 1, 5)
			order := slices.Insert(slices.Clone(stays), first, "101")
			for i, text := range order {
				x.update(keyOf(6, text), []byte{byte(i + 1)}, 1)
			}
			x.all()
			if e := x.delete(noisy(6, "101", 0x5f)); e != api.OK {
				t.Fatalf("%q: %v", order, e)
			}
			x.all()
			for _, text := range []string{"101", "1010", "1011", "10110011", "1010101010101010"} {
				x.lookup(keyOf(6, text))
			}
			if e := x.delete(keyOf(6, "101")); e != api.ErrNone {
				t.Fatalf("%q: %v", order, e)
			}
			if e := x.update(keyOf(6, "101"), []byte("!"), 1); e != api.OK {
				t.Fatalf("%q: %v", order, e)
			}
			checkLookup(t, x.x, keyOf(6, "101"), first)
			x.all()
			for _, text := range stays {
				x.delete(keyOf(6, text))
				x.all()
			}
			checkKeys(t, x.x, 6, "101")
			x.delete(keyOf(6, "101"))
			x.all()
		}
	}
}

// Of each sort of tries keys go one by one, from both ends, and come again.
func TestP13_2DeleteAll(t *testing.T) {
	for _, sort := range [][3]int{{5, 1, 1}, {5, 2, 40}, {8, 1, 41}, {36, 3, 17}} {
		x := newBoth(t, sort[0], sort[1], sort[2])
		for turn := range 3 {
			x.fill(turn, sort[2])
			for i := range sort[2] {
				n := turn + i/2
				if i%2 == 1 {
					n = turn + sort[2] - 1 - i/2
				}
				if e := x.delete(keyOf(sort[0], nth(n))); e != api.OK {
					t.Fatalf("%v: key %d: %v", sort, n, e)
				}
				x.delete(keyOf(sort[0], nth(n)))
				x.all()
			}
		}
	}
}

// All rows of four calls on the keys of up to two bits, each held against the chapter's words.
func TestP13_2EachRowOfCalls(t *testing.T) {
	calls := 0
	for row := range 14 * 14 * 14 * 14 {
		x := newBoth(t, 5, 1, 2)
		for i, n := 0, row; i < 4; i, n = i+1, n/14 {
			key := noisy(5, nth(n%7), byte(row))
			if n%14 < 7 {
				x.update(key, []byte{byte(i + 1)}, 0)
			} else {
				x.delete(key)
			}
			calls++
		}
		for n := range 15 {
			x.lookup(keyOf(5, nth(n)))
		}
		x.keys()
		x.value(0)
		x.value(1)
	}
	if calls != 4*38416 {
		t.Errorf("%d calls", calls)
	}
}

func TestP13_3ValuePlaces(t *testing.T) {
	for _, sort := range sorts() {
		x := newBoth(t, sort[0], sort[1], sort[2])
		x.fill(0, min(sort[2], 200))
		x.all()
		for place := -300; place < sort[2]+300; place++ {
			x.value(place)
		}
		x.keys()
	}
}

// Each place and each number of bytes about the edges of a value, of taken places and of free ones.
func TestP13_3SetEdges(t *testing.T) {
	for _, sort := range [][3]int{{5, 1, 1}, {5, 1, 3}, {6, 2, 3}, {5, 3, 2}, {36, 8, 2}, {7, 255, 2}, {5, 1024, 2}} {
		x := newBoth(t, sort[0], sort[1], sort[2])
		x.fill(1, sort[2]/2)
		for _, off := range edges(sort[1]) {
			for _, many := range edges(sort[1]) {
				if many < 0 || many > 1<<12 {
					continue
				}
				for place := -1; place <= sort[2]; place++ {
					x.set(place, off, slices.Repeat([]byte{byte(off) + byte(many) + byte(place) + 1}, many))
					x.look()
				}
			}
		}
	}
}

func TestP13_3SetAllPlaces(t *testing.T) {
	x := newBoth(t, 5, 12, 3)
	x.fill(0, 2)
	x.delete(keyOf(5, nth(0)))
	fits := 0
	for off := -3; off <= 15; off++ {
		for many := range 16 {
			for place := -2; place <= 4; place++ {
				if x.set(place, off, slices.Repeat([]byte{byte(16*off + many + 5*place)}, many)) == api.OK {
					fits++
				}
				x.look()
			}
		}
	}
	if fits != 3*13*14/2 {
		t.Errorf("%d of them fit", fits)
	}
}

func TestP13_3SetFirstError(t *testing.T) {
	const least, greatest = math.MinInt64, math.MaxInt64
	y, _ := trie.New(specOf(5, 4, 2))
	checkUpdate(t, y, keyOf(5, "01"), "abcd", 0)
	for _, x := range []struct {
		place, off int
		b          string
		e          api.Errno
		one, two   string
	}{
		{0, 4, "", 0, "abcd", "\x00\x00\x00\x00"}, {0, 3, "!", 0, "abc!", "\x00\x00\x00\x00"}, {1, 0, "ABCD", 0, "abc!", "ABCD"}, {1, 3, "3", 0, "abc!", "ABC3"}, {0, 1, "12", 0, "a12!", "ABC3"}, {0, 3, "d", 0, "a12d", "ABC3"},
		{0, 4, "!", 32, "a12d", "ABC3"}, {0, 5, "", 32, "a12d", "ABC3"}, {0, 3, "!!", 32, "a12d", "ABC3"}, {0, 0, "!!!!!", 32, "a12d", "ABC3"}, {0, -1, "", 32, "a12d", "ABC3"}, {0, -1, "!", 32, "a12d", "ABC3"}, {0, -1, "!!", 32, "a12d", "ABC3"}, {1, -4, "!!!!", 32, "a12d", "ABC3"}, {1, 4, "!", 32, "a12d", "ABC3"}, {1, 5, "", 32, "a12d", "ABC3"},
		{0, greatest, "", 32, "a12d", "ABC3"}, {0, greatest, "!", 32, "a12d", "ABC3"}, {0, greatest - 1, "!!", 32, "a12d", "ABC3"}, {0, greatest, "!!!!!", 32, "a12d", "ABC3"}, {0, least, "", 32, "a12d", "ABC3"}, {0, least, "!", 32, "a12d", "ABC3"}, {1, least + 4, "!!!!", 32, "a12d", "ABC3"}, {0, 1 << 32, "!", 32, "a12d", "ABC3"}, {0, 1<<32 + 1, "", 32, "a12d", "ABC3"},
		{2, 0, "!", 6, "a12d", "ABC3"}, {-1, 0, "!", 6, "a12d", "ABC3"}, {2, 0, "", 6, "a12d", "ABC3"}, {-1, 0, "", 6, "a12d", "ABC3"}, {1 << 32, 0, "!", 6, "a12d", "ABC3"}, {greatest, 0, "!", 6, "a12d", "ABC3"}, {least, 0, "!", 6, "a12d", "ABC3"},
		{2, -1, "!", 6, "a12d", "ABC3"}, {2, 5, "", 6, "a12d", "ABC3"}, {-1, 4, "!!!!", 6, "a12d", "ABC3"}, {least, greatest, "!!", 6, "a12d", "ABC3"}, {greatest, least, "", 6, "a12d", "ABC3"}, {-1, 8, "!!!!!", 6, "a12d", "ABC3"},
		{1, 0, "wxyz", 0, "a12d", "wxyz"},
	} {
		if e := y.Set(x.place, x.off, []byte(x.b)); e != x.e {
			t.Errorf("Set(%d, %d, %q): %v; want %v", x.place, x.off, x.b, e, x.e)
		}
		checkValue(t, y, 0, x.one)
		checkValue(t, y, 1, x.two)
		checkKeys(t, y, 5, "01")
	}
}

// Of a place that is none it doesn't matter whether what is to be set would fit.
func TestP13_3NoPlace(t *testing.T) {
	x := newBoth(t, 6, 8, 3)
	x.fill(0, 2)
	for _, place := range x.noPlaces() {
		for _, off := range edges(8) {
			for _, many := range []int{0, 1, 8, 9, 2000} {
				if e := x.set(place, off, row(many)); e != api.ErrNone {
					t.Fatalf("Set(%d, %d, %d bytes): %v", place, off, many, e)
				}
			}
		}
	}
	x.all()
}

// No bytes are alike, nil or not.
func TestP13_3SetNothing(t *testing.T) {
	x, _ := trie.New(specOf(5, 3, 1))
	x.Set(0, 0, []byte("abc"))
	for i, b := range [][]byte{nil, {}, make([]byte, 0, 8), row(8)[8:]} {
		for off := -1; off <= 4; off++ {
			want := api.OK
			if off < 0 || off > 3 {
				want = api.ErrBounds
			}
			if e := x.Set(0, off, b); e != want {
				t.Errorf("%d: Set(0, %d, none): %v", i, off, e)
			}
		}
	}
	checkValue(t, x, 0, "abc")
}

// What is set at a free place makes no key, and stands there until a key's value does.
func TestP13_3FreePlaces(t *testing.T) {
	x := newBoth(t, 5, 4, 4)
	x.update(keyOf(5, "1"), []byte("1234"), 0)
	for place := range 4 {
		x.set(place, place, []byte("s"))
		x.all()
	}
	for _, text := range []string{"11", "", "0"} {
		x.update(keyOf(5, text), []byte("wxyz"), 1)
		x.all()
		x.delete(keyOf(5, text))
		x.set(1, 2, []byte("?"))
		x.all()
		x.update(keyOf(5, text), []byte("WXYZ"), 0)
		x.all()
	}
}

// Keys are in order of their bits alone, whatever their places: those with fewer first, of as many rising.
func TestP13_3KeysByHand(t *testing.T) {
	x, _ := trie.New(specOf(6, 1, 16))
	for i, text := range []string{"1111111111111111", "0000000000000000", "11111111", "00000000", "111111110", "000000001", "1", "0", "0111111111111111", "", "000000000", "10000000", "1111111", "01111111", "00", "100000001"} {
		checkUpdate(t, x, noisy(6, text, byte(0x69*i)), "v", 1)
	}
	checkKeys(t, x, 6, "- 0 1 00 1111111 00000000 01111111 10000000 11111111 000000000 000000001 100000001 111111110 0000000000000000 0111111111111111 1111111111111111")
}

// All keys of a byte, and of the numbers of bits about 256, put in several orders.
func TestP13_3KeysInOrder(t *testing.T) {
	for turn := range 6 {
		x := newBoth(t, 5, 1, 511)
		order := numbers(511)
		shuffle(turn, order)
		for i, n := range order {
			x.update(noisy(5, nth(n), byte(turn*n)), []byte{byte(n)}, 0)
			if i%32 == 0 {
				x.keys()
			}
		}
		for i, key := range x.x.Keys() {
			if !bytes.Equal(key, keyOf(5, nth(i))) {
				t.Fatalf("the key %d is %v", i, key)
			}
		}
		x.all()
	}
	x, _ := trie.New(specOf(36, 1, 8))
	long := strings.Repeat("0", 255)
	for _, text := range []string{long + "1", "11", long, long[:254] + "1", long + "0", long[:254], "1", "1" + long} {
		checkUpdate(t, x, keyOf(36, text), "v", 1)
	}
	checkKeys(t, x, 36, "1 11 "+long[:254]+" "+long+" "+long[:254]+"1 "+long+"0 "+long+"1 1"+long)
}

// Keys are told alike each time, and alike of tries that were made and asked alike.
func TestP13_3KeysAlike(t *testing.T) {
	x, y := newBoth(t, 8, 1, 500), newBoth(t, 8, 1, 500)
	for i, both := range []*both{x, y} {
		order := numbers(500)
		shuffle(i, order)
		for _, n := range order {
			both.update(noisy(8, deep(8, n), byte(i*n)), []byte{1}, 0)
		}
		for n := 499; n > 200; n -= 3 {
			both.delete(keyOf(8, deep(8, n)))
		}
	}
	first := x.x.Keys()
	for range 20 {
		if !slices.EqualFunc(first, x.x.Keys(), bytes.Equal) || !slices.EqualFunc(first, y.x.Keys(), bytes.Equal) {
			t.Fatal("the keys are not those that were told ahead")
		}
	}
	x.all()
	y.all()
}

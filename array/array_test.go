package array_test

import (
	"bytes"
	"math"
	"math/rand"
	"slices"
	"testing"

	"hatchway/api"
	"hatchway/array"
	"hatchway/kinds"
)

// The whole of what callers lean on.
var _ interface {
	Lookup(key []byte) (int, api.Errno)
	Update(key, value []byte, flags uint64) api.Errno
	Delete(key []byte) api.Errno
	Value(place int) ([]byte, api.Errno)
	Set(place, off int, b []byte) api.Errno
} = new(array.Array)

// sorts are arrays of one value and of as many as may be, of values of one byte and of as many as may be, and some between.
func sorts() [][2]int {
	return [][2]int{{1, 1}, {1, 1024}, {1024, 1}, {1024, 1024}, {2, 3}, {3, 300}, {8, 2}, {5, 256}, {255, 257}}
}

func TestP10_1Example(t *testing.T) {
	a, e := array.New(api.MapSpec{Kind: api.MapArray, Key: 4, Value: 2, Entries: 3})
	if a == nil || e != api.OK {
		t.Fatalf("New: %v, %v", a, e)
	}
	if n, e := a.Lookup([]byte{2, 0, 0, 0}); n != 2 || e != api.OK {
		t.Errorf("Lookup(2): %d, %v", n, e)
	}
	if n, e := a.Lookup([]byte{3, 0, 0, 0}); n != 0 || e != api.ErrNone {
		t.Errorf("Lookup(3): %d, %v", n, e)
	}
	if e := a.Update([]byte{1, 0, 0, 0}, []byte("ab"), 0); e != api.OK {
		t.Errorf("Update(1, ab, 0): %v", e)
	}
	if b, e := a.Value(1); string(b) != "ab" || e != api.OK {
		t.Errorf("Value(1): %q, %v", b, e)
	}
	if e := a.Set(1, 1, []byte("c")); e != api.OK {
		t.Errorf("Set(1, 1, c): %v", e)
	}
	if b, e := a.Value(1); string(b) != "ac" || e != api.OK {
		t.Errorf("Value(1): %q, %v", b, e)
	}
	if e := a.Update([]byte{1, 0, 0, 0}, []byte("xy"), 1); e != api.ErrThere {
		t.Errorf("Update(1, xy, 1): %v", e)
	}
	if b, e := a.Value(1); string(b) != "ac" || e != api.OK {
		t.Errorf("Value(1): %q, %v", b, e)
	}
	if e := a.Delete([]byte{1, 0, 0, 0}); e != api.ErrKind {
		t.Errorf("Delete(1): %v", e)
	}
}

func checkNew(t *testing.T, s api.MapSpec) *array.Array {
	t.Helper()
	want := wantNew(s)
	a, e := array.New(s)
	if e != want || (a != nil) != (want == api.OK) {
		t.Fatalf("New(%+v): %v, %v; want %v", s, a != nil, e, want)
	}
	if own := kinds.Spec(s); own != api.OK && e != own {
		t.Fatalf("New(%+v): %v; kinds tells %v", s, e, own)
	}
	return a
}

// Each Kind that a byte can be, with parts that are right for some of them, and such as are right for none.
func TestP10_1Kinds(t *testing.T) {
	made := 0
	for kind := range 256 {
		for _, key := range []int{-1, 0, 1, 3, 4, 5, 8, 36, 64, 65, 1 << 32, 1<<32 + 4, math.MinInt64, math.MaxInt64} {
			for _, value := range []int{-1, 0, 1, 8, 1025, 1<<32 + 1, math.MinInt64} {
				for _, entries := range []int{-1, 0, 1, 16, 64, 1025, 16384, 1<<32 + 1, math.MaxInt64} {
					if checkNew(t, api.MapSpec{Kind: api.MapKind(kind), Key: key, Value: value, Entries: entries}) != nil {
						made++
					}
				}
			}
		}
	}
	if made != 2*3 {
		t.Errorf("%d arrays were made", made)
	}
}

// Each number of values, of bytes of one, and of bytes of a key.
func TestP10_1Parts(t *testing.T) {
	for n := -3; n <= 1030; n++ {
		checkNew(t, specOf(1, n))
		checkNew(t, specOf(n, 1))
		checkNew(t, api.MapSpec{Kind: 1, Key: n, Value: 1, Entries: 1})
		checkNew(t, api.MapSpec{Kind: 8, Key: 4, Value: n, Entries: 1})
		checkNew(t, api.MapSpec{Kind: 2, Key: n, Value: 1, Entries: 1})
	}
}

func TestP10_1FirstError(t *testing.T) {
	for _, x := range []struct {
		s api.MapSpec
		e api.Errno
	}{
		{api.MapSpec{}, 9}, {api.MapSpec{Kind: 9}, 9}, {api.MapSpec{Kind: 255, Key: 4, Value: 1, Entries: 1}, 9}, {api.MapSpec{Key: 4, Value: 1, Entries: 1}, 9},
		{api.MapSpec{Kind: 1}, 2}, {specOf(1, 0), 2}, {specOf(0, 1), 2}, {specOf(1, 1025), 2}, {specOf(1025, 1), 2}, {specOf(1, -1), 2}, {specOf(-1, 1), 2},
		{api.MapSpec{Kind: 1, Value: 1, Entries: 1}, 2}, {api.MapSpec{Kind: 1, Key: 3, Value: 1, Entries: 1}, 2}, {api.MapSpec{Kind: 1, Key: 5, Value: 1, Entries: 1}, 2},
		{api.MapSpec{Kind: 2}, 2}, {api.MapSpec{Kind: 4, Key: 4, Value: 1, Entries: 1}, 2}, {api.MapSpec{Kind: 5, Key: 4, Value: 1, Entries: 1}, 2}, {api.MapSpec{Kind: 7, Key: 4, Value: 1, Entries: 1}, 2}, {api.MapSpec{Kind: 8, Key: 4, Value: 1, Entries: 1}, 2},
		{api.MapSpec{Kind: 2, Key: 4, Value: 1, Entries: 1}, 9}, {api.MapSpec{Kind: 3, Key: 4, Value: 1, Entries: 1}, 9}, {api.MapSpec{Kind: 4, Key: 5, Value: 1, Entries: 1}, 9}, {api.MapSpec{Kind: 5, Value: 1, Entries: 1}, 9}, {api.MapSpec{Kind: 6, Value: 1, Entries: 1}, 9}, {api.MapSpec{Kind: 7, Entries: 16}, 9}, {api.MapSpec{Kind: 8, Key: 4, Value: 8, Entries: 1}, 9},
		{specOf(1, 1), 0}, {specOf(1024, 1024), 0},
	} {
		if a, e := array.New(x.s); e != x.e || (a != nil) != (e == api.OK) {
			t.Errorf("New(%+v): %v, %v; want %v", x.s, a != nil, e, x.e)
		}
	}
}

// As many values as the make says, of as many bytes, noughts all of them, at no place but theirs.
func TestP10_1Noughts(t *testing.T) {
	for _, sort := range sorts() {
		x := newBoth(t, sort[0], sort[1])
		x.all()
		for _, key := range keys(sort[1]) {
			x.lookup(key)
		}
	}
	for value := 1; value <= 1024; value += 11 {
		for _, entries := range []int{1, 2, 7} {
			newBoth(t, value, entries).all()
			newBoth(t, entries, value).all()
		}
	}
}

// checkNothing asks an array that is not there for everything, right or wrong.
func checkNothing(t *testing.T, name string, a *array.Array) {
	t.Helper()
	values := [][]byte{nil, row(1), row(4), row(5)}
	for _, key := range keys(3) {
		if n, e := a.Lookup(key); n != 0 || e != api.ErrNil {
			t.Errorf("%s: Lookup(%v): %d, %v", name, key, n, e)
		}
		if e := a.Delete(key); e != api.ErrNil {
			t.Errorf("%s: Delete(%v): %v", name, key, e)
		}
		for _, value := range values {
			for _, flag := range flags() {
				if e := a.Update(key, value, flag); e != api.ErrNil {
					t.Errorf("%s: Update(%v, %v, %d): %v", name, key, value, flag, e)
				}
			}
		}
	}
	for _, place := range edges(3) {
		if b, e := a.Value(place); b != nil || e != api.ErrNil {
			t.Errorf("%s: Value(%d): %v, %v", name, place, b, e)
		}
		for _, off := range edges(4) {
			for _, b := range values {
				if e := a.Set(place, off, b); e != api.ErrNil {
					t.Errorf("%s: Set(%d, %d, %v): %v", name, place, off, b, e)
				}
			}
		}
	}
}

// What New did not answer is no array.
func TestP10_1NoArray(t *testing.T) {
	var none *array.Array
	checkNothing(t, "nil", none)
	checkNothing(t, "zero", &array.Array{})
	checkNothing(t, "new", new(array.Array))
	arrays := make([]array.Array, 2)
	checkNothing(t, "of a slice", &arrays[1])
	x := newBoth(t, 4, 3)
	x.update(keyOf(1), []byte("abcd"), 0)
	copied := *x.a
	checkNothing(t, "a copy", &copied)
	x.all()
	x.set(2, 1, []byte("xy"))
	checkNothing(t, "a copy", &copied)
	x.all()
}

// Each key of four bytes that lies near: those of places, and those whose lowest bytes alone are one's.
func TestP10_2LookupKeys(t *testing.T) {
	for _, sort := range sorts() {
		x := newBoth(t, sort[0], sort[1])
		for place := range uint32(sort[1] + 300) {
			x.lookup(keyOf(place))
		}
		for low := range uint32(40) {
			for bit := 6; bit < 32; bit++ {
				x.lookup(keyOf(1<<bit | low))
				x.lookup(keyOf(math.MaxUint32<<bit | low))
				x.lookup(keyOf(math.MaxUint32<<bit + low*uint32(sort[1])))
			}
		}
		for _, key := range keys(sort[1]) {
			x.lookup(key)
		}
	}
}

// Each byte of a key counts, the lowest one first.
func TestP10_2LowestFirst(t *testing.T) {
	a, _ := array.New(specOf(1, 1024))
	for _, x := range []struct {
		key  []byte
		want int
		e    api.Errno
	}{
		{[]byte{0, 0, 0, 0}, 0, 0}, {[]byte{1, 0, 0, 0}, 1, 0}, {[]byte{0, 1, 0, 0}, 256, 0}, {[]byte{2, 1, 0, 0}, 258, 0}, {[]byte{1, 2, 0, 0}, 513, 0}, {[]byte{255, 3, 0, 0}, 1023, 0}, {[]byte{128, 0, 0, 0}, 128, 0}, {[]byte{255, 0, 0, 0}, 255, 0},
		{[]byte{0, 4, 0, 0}, 0, 6}, {[]byte{0, 0, 1, 0}, 0, 6}, {[]byte{0, 0, 0, 1}, 0, 6}, {[]byte{0, 0, 0, 128}, 0, 6}, {[]byte{1, 0, 0, 128}, 0, 6}, {[]byte{255, 255, 255, 127}, 0, 6}, {[]byte{255, 255, 255, 255}, 0, 6}, {[]byte{0, 255, 0, 0}, 0, 6},
		{nil, 0, 2}, {[]byte{}, 0, 2}, {[]byte{1}, 0, 2}, {[]byte{1, 0}, 0, 2}, {[]byte{1, 0, 0}, 0, 2}, {[]byte{1, 0, 0, 0, 0}, 0, 2}, {[]byte{1, 0, 0, 0, 0, 0, 0, 0}, 0, 2}, {[]byte{255, 255, 255}, 0, 2}, {[]byte{255, 255, 255, 255, 255}, 0, 2},
	} {
		if n, e := a.Lookup(x.key); n != x.want || e != x.e {
			t.Errorf("Lookup(%v): %d, %v; want %d, %v", x.key, n, e, x.want, x.e)
		}
	}
}

// Keys, values and flags, right and wrong, each with each.
func TestP10_2UpdateEach(t *testing.T) {
	for _, sort := range [][2]int{{1, 1}, {2, 3}, {3, 300}, {1024, 2}, {1, 1024}} {
		x := newBoth(t, sort[0], sort[1])
		seen := map[api.Errno]int{}
		for _, size := range []int{0, 1, sort[0] - 1, sort[0], sort[0] + 1, 2 * sort[0], sort[0] + 256, 1024} {
			for _, flag := range flags() {
				for i, key := range keys(sort[1]) {
					value := row(size + i)[i:]
					seen[x.update(key, value, flag)]++
				}
				x.all()
			}
		}
		for _, e := range []api.Errno{api.OK, api.ErrArg, api.ErrNone, api.ErrThere} {
			if seen[e] == 0 {
				t.Errorf("of %v no update tells %v", sort, e)
			}
		}
	}
}

func TestP10_2UpdateFirstError(t *testing.T) {
	a, _ := array.New(specOf(2, 3))
	short, long := keyOf(0)[:3], append(keyOf(0), 0)
	for _, x := range []struct {
		key   []byte
		value string
		flags uint64
		e     api.Errno
	}{
		{short, "ab", 0, 2}, {long, "ab", 0, 2}, {nil, "ab", 0, 2}, {short, "ab", 1, 2}, {long, "ab", 1, 2}, {[]byte{9, 9, 9}, "ab", 0, 2},
		{keyOf(0), "a", 0, 2}, {keyOf(0), "abc", 0, 2}, {keyOf(0), "", 0, 2}, {keyOf(3), "a", 0, 2}, {keyOf(3), "abc", 1, 2}, {keyOf(0), "abc", 1, 2}, {keyOf(1 << 31), "", 1, 2},
		{keyOf(0), "ab", 3, 2}, {keyOf(3), "ab", 3, 2}, {keyOf(0), "ab", math.MaxUint64, 2}, {keyOf(3), "ab", 1 << 63, 2}, {keyOf(0), "ab", 1 << 32, 2}, {keyOf(0), "ab", 257, 2}, {keyOf(0), "ab", 256, 2},
		{keyOf(3), "ab", 0, 6}, {keyOf(3), "ab", 1, 6}, {keyOf(3), "ab", 2, 6}, {keyOf(1 << 31), "ab", 1, 6}, {keyOf(math.MaxUint32), "ab", 0, 6}, {keyOf(1 << 8), "ab", 2, 6}, {keyOf(1 << 24), "ab", 1, 6},
		{keyOf(0), "ab", 1, 7}, {keyOf(2), "ab", 1, 7},
	} {
		if e := a.Update(x.key, []byte(x.value), x.flags); e != x.e {
			t.Errorf("Update(%v, %q, %d): %v; want %v", x.key, x.value, x.flags, e, x.e)
		}
		for place := range 3 {
			if b, e := a.Value(place); string(b) != "\x00\x00" || e != api.OK {
				t.Fatalf("behind Update(%v, %q, %d): Value(%d): %q, %v", x.key, x.value, x.flags, place, b, e)
			}
		}
	}
	for i, x := range []struct {
		place uint32
		flags uint64
	}{{0, 0}, {0, 2}, {2, 2}, {2, 0}, {1, 2}} {
		value := []byte{byte(i), 'x'}
		if e := a.Update(keyOf(x.place), value, x.flags); e != api.OK {
			t.Errorf("Update(%d, %v, %d): %v", x.place, value, x.flags, e)
		}
		if b, e := a.Value(int(x.place)); !bytes.Equal(b, value) || e != api.OK {
			t.Errorf("behind Update(%d, %v, %d): %v, %v", x.place, value, x.flags, b, e)
		}
	}
}

// Values of every length.
func TestP10_2UpdateLengths(t *testing.T) {
	for _, size := range []int{1, 2, 255, 256, 1023, 1024} {
		x := newBoth(t, size, 2)
		fits := 0
		for length := range 1300 {
			if x.update(keyOf(1), row(length), uint64(length%2*2)) == api.OK {
				fits++
			}
		}
		x.update(keyOf(1), make([]byte, 1<<16+size), 0)
		x.all()
		if fits != 1 {
			t.Errorf("of %d lengths a value of %d bytes was put", fits, size)
		}
	}
}

// Nothing is deleted, whatever the key.
func TestP10_2Delete(t *testing.T) {
	for _, sort := range sorts() {
		x := newBoth(t, sort[0], sort[1])
		x.update(keyOf(0), row(sort[0]), 0)
		x.update(keyOf(uint32(sort[1]-1)), row(sort[0] + 1)[1:], 0)
		for _, key := range keys(sort[1]) {
			x.delete(key)
		}
		for place := range uint32(sort[1]) {
			x.delete(keyOf(place))
			x.lookup(keyOf(place))
		}
		x.all()
	}
}

func TestP10_3ValuePlaces(t *testing.T) {
	for _, sort := range sorts() {
		x := newBoth(t, sort[0], sort[1])
		for place := range sort[1] {
			x.update(keyOf(uint32(place)), row(sort[0] + place%200)[place%200:], 2)
		}
		x.all()
		for place := -300; place < sort[1]+300; place++ {
			x.value(place)
		}
	}
}

// Each place and each number of bytes about the edges of a value.
func TestP10_3SetEdges(t *testing.T) {
	for _, sort := range [][2]int{{1, 1}, {1, 3}, {2, 3}, {3, 2}, {8, 2}, {255, 2}, {1024, 2}} {
		x := newBoth(t, sort[0], sort[1])
		for _, off := range edges(sort[0]) {
			for _, many := range edges(sort[0]) {
				if many < 0 || many > 1<<12 {
					continue
				}
				for place := -1; place <= sort[1]; place++ {
					x.set(place, off, slices.Repeat([]byte{byte(off) + byte(many) + byte(place) + 1}, many))
					x.all()
				}
			}
		}
	}
}

func TestP10_3SetAllPlaces(t *testing.T) {
	x := newBoth(t, 12, 3)
	fits := 0
	for off := -3; off <= 15; off++ {
		for many := range 16 {
			for place := -1; place <= 3; place++ {
				if x.set(place, off, slices.Repeat([]byte{byte(16*off + many)}, many)) == api.OK {
					fits++
				}
			}
			x.all()
		}
	}
	if fits != 3*13*14/2 {
		t.Errorf("%d were set", fits)
	}
}

func TestP10_3ByHand(t *testing.T) {
	a, _ := array.New(specOf(4, 2))
	const least, greatest = math.MinInt64, math.MaxInt64
	for _, x := range []struct {
		place, off int
		b          string
		e          api.Errno
		one, two   string
	}{
		{0, 0, "abcd", 0, "abcd", "\x00\x00\x00\x00"}, {1, 0, "ABCD", 0, "abcd", "ABCD"},
		{0, 1, "12", 0, "a12d", "ABCD"}, {1, 3, "3", 0, "a12d", "ABC3"}, {1, 4, "", 0, "a12d", "ABC3"}, {0, 0, "", 0, "a12d", "ABC3"}, {0, 2, "", 0, "a12d", "ABC3"},
		{0, 4, "!", 32, "a12d", "ABC3"}, {0, 3, "!!", 32, "a12d", "ABC3"}, {0, 0, "!!!!!", 32, "a12d", "ABC3"}, {0, 1, "!!!!", 32, "a12d", "ABC3"}, {0, 5, "", 32, "a12d", "ABC3"}, {0, 8, "", 32, "a12d", "ABC3"}, {1, 4, "!", 32, "a12d", "ABC3"},
		{0, -1, "", 32, "a12d", "ABC3"}, {0, -1, "!", 32, "a12d", "ABC3"}, {0, -4, "!!!!", 32, "a12d", "ABC3"}, {1, -4, "!!!!", 32, "a12d", "ABC3"}, {1, -1, "!!!!!", 32, "a12d", "ABC3"},
		{0, greatest, "", 32, "a12d", "ABC3"}, {0, greatest, "!", 32, "a12d", "ABC3"}, {0, greatest - 1, "!!", 32, "a12d", "ABC3"}, {0, greatest - 3, "!!!!!", 32, "a12d", "ABC3"}, {0, least, "", 32, "a12d", "ABC3"}, {0, least, "!", 32, "a12d", "ABC3"}, {0, least + 4, "!!!!", 32, "a12d", "ABC3"}, {0, 1 << 32, "!", 32, "a12d", "ABC3"}, {0, 1<<32 + 1, "", 32, "a12d", "ABC3"},
		{2, 0, "!", 6, "a12d", "ABC3"}, {-1, 0, "!", 6, "a12d", "ABC3"}, {2, 0, "", 6, "a12d", "ABC3"}, {1 << 32, 0, "!", 6, "a12d", "ABC3"}, {greatest, 0, "!", 6, "a12d", "ABC3"}, {least, 0, "!", 6, "a12d", "ABC3"},
		{2, -1, "!", 6, "a12d", "ABC3"}, {2, 5, "", 6, "a12d", "ABC3"}, {-1, 4, "!!!!", 6, "a12d", "ABC3"}, {least, greatest, "!!", 6, "a12d", "ABC3"}, {greatest, least, "", 6, "a12d", "ABC3"}, {-1, 8, "!!!!!", 6, "a12d", "ABC3"},
		{1, 0, "wxyz", 0, "a12d", "wxyz"},
	} {
		if e := a.Set(x.place, x.off, []byte(x.b)); e != x.e {
			t.Errorf("Set(%d, %d, %q): %v; want %v", x.place, x.off, x.b, e, x.e)
		}
		one, _ := a.Value(0)
		two, _ := a.Value(1)
		if string(one) != x.one || string(two) != x.two {
			t.Errorf("behind Set(%d, %d, %q): %q, %q", x.place, x.off, x.b, one, two)
		}
	}
}

// Of a place that is none it doesn't matter whether what is to be set would fit.
func TestP10_3FirstError(t *testing.T) {
	x := newBoth(t, 8, 3)
	for _, place := range x.noPlaces() {
		for _, off := range edges(8) {
			for _, many := range []int{0, 1, 8, 9, 2000} {
				if e := x.set(place, off, row(many)); e != api.ErrNone {
					t.Fatalf("Set(%d, %d, %d bytes): %v", place, off, many, e)
				}
			}
		}
	}
	x.all()
}

// No bytes are alike, nil or not.
func TestP10_3SetNothing(t *testing.T) {
	a, _ := array.New(specOf(3, 1))
	a.Set(0, 0, []byte("abc"))
	for i, b := range [][]byte{nil, {}, make([]byte, 0, 8), row(8)[8:]} {
		for off := -1; off <= 4; off++ {
			want := api.OK
			if off < 0 || off > 3 {
				want = api.ErrBounds
			}
			if e := a.Set(0, off, b); e != want {
				t.Errorf("%d: Set(0, %d, none): %v", i, off, e)
			}
		}
	}
	if b, e := a.Value(0); string(b) != "abc" || e != api.OK {
		t.Errorf("%q, %v", b, e)
	}
}

// An update is of the place that Lookup tells; each is followed by a look at all places.
func TestP10_4OthersStay(t *testing.T) {
	for _, sort := range [][2]int{{1, 1}, {1, 64}, {3, 40}, {7, 300}} {
		x := newBoth(t, sort[0], sort[1])
		for turn, flag := range []uint64{0, 2} {
			for place := range uint32(sort[1]) {
				value := slices.Repeat([]byte{byte(place) ^ byte(turn+1)<<6}, sort[0])
				x.update(keyOf(place), value, flag)
				n, e := x.a.Lookup(keyOf(place))
				b, f := x.a.Value(n)
				if n != int(place) || e != api.OK || f != api.OK || !bytes.Equal(b, value) {
					t.Fatalf("Update(%d): Lookup %d, %v; Value %v, %v", place, n, e, b, f)
				}
				x.all()
			}
		}
		for place := range sort[1] {
			for off := range sort[0] {
				x.set(place, off, []byte{byte(3 * place)})
			}
			x.all()
		}
	}
}

// The greatest array: each value is its own, up to its last byte.
func TestP10_4Greatest(t *testing.T) {
	x := newBoth(t, 1024, 1024)
	valueOf := func(place int) []byte {
		b := slices.Repeat([]byte{byte(place)}, 1024)
		b[0], b[1023] = byte(place>>8), byte(place>>2)
		return b
	}
	for place := range 1024 {
		x.update(keyOf(uint32(place)), valueOf(place), 0)
	}
	x.all()
	for _, place := range []int{0, 1, 255, 256, 511, 512, 1022, 1023} {
		x.set(place, 0, []byte("first"))
		x.set(place, 1019, []byte("behind"))
		x.set(place, 1018, []byte("behind"))
		x.set(place, 1023, []byte("!"))
		x.all()
	}
}

// What is handed in is not kept, and what was told stays as it was.
func TestP10_4ToldApart(t *testing.T) {
	a, _ := array.New(specOf(8, 2))
	given := []byte("abcdefgh")
	a.Update(keyOf(0), given, 0)
	a.Update(keyOf(1), given, 2)
	overwrite(given)
	one, _ := a.Value(0)
	two, _ := a.Value(0)
	three, _ := a.Value(1)
	for _, b := range [][]byte{one, two, three} {
		if string(b) != "abcdefgh" {
			t.Fatalf("%q", b)
		}
	}
	overwrite(one)
	if string(two) != "abcdefgh" || string(three) != "abcdefgh" {
		t.Fatalf("%q, %q", two, three)
	}
	part := []byte("123")
	a.Set(0, 2, part)
	a.Update(keyOf(1), []byte("ABCDEFGH"), 0)
	overwrite(part)
	if string(two) != "abcdefgh" || string(three) != "abcdefgh" {
		t.Fatalf("%q, %q", two, three)
	}
	four, _ := a.Value(0)
	five, _ := a.Value(1)
	if string(four) != "ab123fgh" || string(five) != "ABCDEFGH" {
		t.Fatalf("%q, %q", four, five)
	}
	a.Update(keyOf(1), four, 0)
	a.Set(0, 0, five)
	overwrite(four)
	overwrite(five)
	six, _ := a.Value(0)
	seven, _ := a.Value(1)
	if string(six) != "ABCDEFGH" || string(seven) != "ab123fgh" {
		t.Fatalf("%q, %q", six, seven)
	}
}

// Two arrays of one make are apart.
func TestP10_4ArraysApart(t *testing.T) {
	x, y := newBoth(t, 3, 4), newBoth(t, 3, 4)
	x.update(keyOf(1), []byte("abc"), 0)
	y.set(2, 1, []byte("z"))
	x.all()
	y.all()
	y.update(keyOf(1), []byte("xyz"), 2)
	z := newBoth(t, 3, 4)
	x.set(3, 0, []byte("123"))
	x.all()
	y.all()
	z.all()
}

// What looks at an array, and what may not be, changes nothing.
func TestP10_4NothingChanges(t *testing.T) {
	x := newBoth(t, 4, 5)
	for place := range uint32(5) {
		x.update(keyOf(place), row(8)[place%4:][:4], 0)
	}
	for _, key := range keys(5) {
		x.lookup(key)
		x.delete(key)
		x.update(key, []byte("wxyz"), 1)
		x.update(key, []byte("wxyz"), 3)
		x.update(key, []byte("wxy"), 0)
		x.update(key, []byte("wxyz!"), 2)
		x.all()
	}
	for place := range 5 {
		for _, off := range edges(4) {
			x.set(place, off, nil)
			x.set(place, off, []byte("wxyz!"))
			if off != 0 {
				x.set(place, off, []byte("wxyz"))
			}
			x.all()
		}
	}
}

// Calls in any order, held against the chapter's words behind each.
func TestP10_4Drawn(t *testing.T) {
	draw := rand.New(rand.NewSource(10))
	drawn := func(size int) []byte {
		b := make([]byte, size)
		draw.Read(b)
		return b
	}
	for range 150 {
		value, entries := 1+draw.Intn(12), 1+draw.Intn(20)
		x := newBoth(t, value, entries)
		key := func() []byte {
			k := keyOf(uint32(draw.Intn(entries + 2)))
			switch draw.Intn(12) {
			case 0:
				k[1+draw.Intn(3)] = byte(draw.Intn(256))
			case 1:
				k = drawn(draw.Intn(7))
			}
			return k
		}
		for range 200 {
			size := value
			if draw.Intn(8) == 0 {
				size = draw.Intn(value + 3)
			}
			switch draw.Intn(8) {
			case 0, 1, 2:
				x.update(key(), drawn(size), uint64(draw.Intn(4)))
			case 3, 4, 5:
				x.set(draw.Intn(entries+2)-1, draw.Intn(value+3)-1, drawn(draw.Intn(value+2)))
			case 6:
				x.lookup(key())
			default:
				x.delete(key())
			}
			x.all()
		}
	}
}

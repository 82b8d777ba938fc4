package region_test

import (
	"bytes"
	"math"
	"math/rand"
	"runtime"
	"testing"

	"hatchway/api"
	"hatchway/region"
)

// The whole of what callers lean on.
var _ interface {
	Make(kind api.RegionKind, b []byte) (int, api.Errno)
	Kind(region int) api.RegionKind
	Size(region int) int
	Read(region int, off int64, size int) ([]byte, api.Errno)
	Write(region int, off int64, b []byte) api.Errno
	Free(region int) api.Errno
} = region.New()

// row is so many bytes, no two of 251 alike.
func row(size int) []byte {
	b := make([]byte, size)
	for i := range b {
		b[i] = byte(i%251 + 1)
	}
	return b
}

// numbers that no region has.
func noNumbers() []int {
	return []int{0, -1, -2, -1 << 32, math.MinInt64, 1 << 32, 1<<32 + 1, math.MaxInt64}
}

func TestP8_1Example(t *testing.T) {
	m := region.New()
	if n, e := m.Make(api.RegionCtx, make([]byte, 4)); n != 1 || e != api.OK {
		t.Fatalf("Make: %d, %v", n, e)
	}
	if e := m.Write(1, 2, []byte("ab")); e != api.OK {
		t.Fatalf("Write: %v", e)
	}
	if b, e := m.Read(1, 1, 3); string(b) != "\x00ab" || e != api.OK {
		t.Fatalf("Read: %q, %v", b, e)
	}
	if b, e := m.Read(1, 2, 3); b != nil || e != api.ErrBounds {
		t.Fatalf("Read: %q, %v", b, e)
	}
	if e := m.Free(1); e != api.OK {
		t.Fatalf("Free: %v", e)
	}
	if b, e := m.Read(1, 0, 0); b != nil || e != api.ErrNone {
		t.Fatalf("Read: %q, %v", b, e)
	}
	if n, e := m.Make(api.RegionStack, nil); n != 2 || e != api.OK {
		t.Fatalf("Make: %d, %v", n, e)
	}
}

func TestP8_1NewHasNoRegions(t *testing.T) {
	x := newBoth(t)
	x.all()
	for _, n := range append(noNumbers(), 1, 2, 3, 4096) {
		x.same(n)
		x.read(n, 0, 0)
		x.write(n, 0, nil)
		x.write(n, 0, []byte("a"))
		x.free(n)
	}
	x.all()
	if n := x.make(api.RegionStack, nil); n != 1 {
		t.Errorf("the first region's number is %d", n)
	}
}

// All kinds that a byte can be, with as many bytes as there may be and more.
func TestP8_1Kinds(t *testing.T) {
	x := newBoth(t)
	made := 0
	for kind := range 256 {
		for _, size := range []int{0, 1, 4096, 4097} {
			if x.make(api.RegionKind(kind), row(size)) != 0 {
				made++
			}
		}
	}
	if made != 5*3 {
		t.Errorf("%d regions were made", made)
	}
	x.all()
	for i, kind := range []api.RegionKind{api.RegionStack, api.RegionCtx, api.RegionPacket, api.RegionValue, api.RegionScratch} {
		for number := i*3 + 1; number <= i*3+3; number++ {
			if got := x.m.Kind(number); got != kind || int(got) != i+1 {
				t.Errorf("region %d is of kind %d", number, got)
			}
		}
	}
}

func TestP8_1Sizes(t *testing.T) {
	x := newBoth(t)
	for size := range 4100 {
		if n := x.make(api.RegionKind(size%5+1), row(size)); (n != 0) != (size <= 4096) {
			t.Fatalf("%d bytes: %d", size, n)
		}
	}
	x.make(api.RegionPacket, make([]byte, 1<<16))
	x.make(api.RegionPacket, make([]byte, 1<<16+4096))
	x.make(api.RegionPacket, make([]byte, 1<<24))
	x.all()
}

func TestP8_1FirstError(t *testing.T) {
	m := region.New()
	for _, wrong := range []struct {
		kind api.RegionKind
		size int
		want api.Errno
	}{{0, 0, api.ErrArg}, {0, 4097, api.ErrArg}, {6, 4097, api.ErrArg}, {255, 4097, api.ErrArg}, {1, 4097, api.ErrLong}, {5, 4097, api.ErrLong}} {
		if n, e := m.Make(wrong.kind, make([]byte, wrong.size)); n != 0 || e != wrong.want {
			t.Errorf("Make(%d, %d bytes): %d, %v", wrong.kind, wrong.size, n, e)
		}
	}
	var none *region.Memory
	for _, kind := range []api.RegionKind{0, 1, 6} {
		for _, size := range []int{0, 4097} {
			if n, e := none.Make(kind, make([]byte, size)); n != 0 || e != api.ErrNil {
				t.Errorf("Make(%d, %d bytes) of nil: %d, %v", kind, size, n, e)
			}
		}
	}
}

// What may not be made takes no number.
func TestP8_1NumbersInOrder(t *testing.T) {
	x := newBoth(t)
	for want := 1; want <= 300; want++ {
		x.make(0, nil)
		x.make(6, row(want))
		x.make(api.RegionValue, row(4096+want))
		if n := x.make(api.RegionKind(want%5+1), row(want%7)); n != want {
			t.Fatalf("region %d has the number %d", want, n)
		}
	}
	x.all()
}

// No bytes are alike, nil or not.
func TestP8_1NoBytes(t *testing.T) {
	m := region.New()
	for want, b := range [][]byte{nil, {}, make([]byte, 0, 8), row(8)[8:]} {
		n, e := m.Make(api.RegionScratch, b)
		if n != want+1 || e != api.OK || m.Size(n) != 0 || m.Kind(n) != api.RegionScratch {
			t.Errorf("%d: %d, %v", want, n, e)
		}
		for _, at := range []int64{-1, 0, 1} {
			want := api.ErrBounds
			if at == 0 {
				want = api.OK
			}
			if got, e := m.Read(n, at, 0); got != nil || e != want {
				t.Errorf("Read(%d, %d, 0): %v, %v", n, at, got, e)
			}
			if e := m.Write(n, at, b); e != want {
				t.Errorf("Write(%d, %d, none): %v", n, at, e)
			}
			if got, e := m.Read(n, at, 1); got != nil || e != api.ErrBounds {
				t.Errorf("Read(%d, %d, 1): %v, %v", n, at, got, e)
			}
			if e := m.Write(n, at, []byte("a")); e != api.ErrBounds {
				t.Errorf("Write(%d, %d, a): %v", n, at, e)
			}
		}
	}
}

// edges are places and numbers of bytes about a region of that size, and those at the ends of what a number may be.
func edges(size int) []int64 {
	s := int64(size)
	return []int64{math.MinInt64, math.MinInt64 + 1, -1 << 32, -s - 1, -s, -2, -1, 0, 1, 2, s / 2, s - 2, s - 1, s, s + 1, s + 2, 2 * s, 4096, 4097, 1 << 32, 1<<32 + 1, math.MaxInt64 - s, math.MaxInt64 - 1, math.MaxInt64}
}

func TestP8_2ReadEdges(t *testing.T) {
	x := newBoth(t)
	for i, size := range []int{0, 1, 2, 3, 8, 100, 4095, 4096} {
		number := x.make(api.RegionKind(i%5+1), row(size))
		for _, off := range edges(size) {
			for _, many := range edges(size) {
				x.read(number, off, int(many))
			}
		}
	}
	x.all()
}

func TestP8_2WriteEdges(t *testing.T) {
	x := newBoth(t)
	for i, size := range []int{0, 1, 2, 3, 8, 100, 4095, 4096} {
		number := x.make(api.RegionKind(i%5+1), row(size))
		for _, off := range edges(size) {
			for _, many := range edges(size) {
				if many < 0 || many > 9000 {
					continue
				}
				x.write(number, off, bytes.Repeat([]byte{byte(off), byte(many)}, int(many))[:many])
				x.same(number)
			}
		}
	}
	x.all()
}

// Each place, and each number of bytes, of a region of twelve and about it.
func TestP8_2AllPlaces(t *testing.T) {
	x := newBoth(t)
	x.make(api.RegionPacket, row(12))
	for off := int64(-3); off <= 15; off++ {
		for size := -3; size <= 15; size++ {
			x.read(1, off, size)
			if size >= 0 {
				x.write(1, off, bytes.Repeat([]byte{byte(16*off + int64(size))}, size))
				x.same(1)
			}
		}
	}
}

func TestP8_2ByHand(t *testing.T) {
	m := region.New()
	m.Make(api.RegionValue, []byte("abcd"))
	const least, greatest = math.MinInt64, math.MaxInt64
	for _, x := range []struct {
		off  int64
		size int
		want string
		e    api.Errno
	}{
		{0, 4, "abcd", 0}, {0, 0, "", 0}, {1, 2, "bc", 0}, {3, 1, "d", 0}, {4, 0, "", 0},
		{4, 1, "", 32}, {5, 0, "", 32}, {5, -1, "", 32}, {0, 5, "", 32}, {-1, 0, "", 32}, {-1, 1, "", 32}, {-1, 5, "", 32}, {0, -1, "", 32}, {1, -1, "", 32}, {4, -4, "", 32},
		{greatest, 1, "", 32}, {1, greatest, "", 32}, {greatest, greatest, "", 32}, {greatest, 5, "", 32}, {5, greatest, "", 32},
		{least, least, "", 32}, {least, greatest, "", 32}, {greatest, least, "", 32}, {least, 0, "", 32}, {0, least, "", 32}, {least, 4, "", 32}, {4, least, "", 32},
		{1 << 32, 1, "", 32}, {1, 1 << 32, "", 32},
	} {
		if b, e := m.Read(1, x.off, x.size); string(b) != x.want || e != x.e {
			t.Errorf("Read(1, %d, %d): %q, %v", x.off, x.size, b, e)
		}
	}
	for _, x := range []struct {
		off  int64
		b    string
		want string
		e    api.Errno
	}{
		{0, "wxyz", "wxyz", 0}, {1, "12", "w12z", 0}, {3, "3", "w123", 0}, {4, "", "w123", 0}, {0, "", "w123", 0},
		{4, "!", "w123", 32}, {3, "!!", "w123", 32}, {0, "!!!!!", "w123", 32}, {5, "", "w123", 32}, {-1, "!", "w123", 32}, {-1, "", "w123", 32}, {-1, "!!!!!", "w123", 32},
		{greatest, "", "w123", 32}, {greatest, "!", "w123", 32}, {greatest - 1, "!!!!", "w123", 32}, {least, "", "w123", 32}, {least, "!", "w123", 32}, {1 << 32, "!", "w123", 32},
	} {
		e := m.Write(1, x.off, []byte(x.b))
		if b, _ := m.Read(1, 0, 4); string(b) != x.want || e != x.e {
			t.Errorf("Write(1, %d, %q): %v, %q", x.off, x.b, e, b)
		}
	}
}

// Of a region that is not live it doesn't matter whether what is asked for would fit.
func TestP8_2FirstError(t *testing.T) {
	x := newBoth(t)
	x.make(api.RegionStack, row(8))
	x.make(api.RegionStack, row(8))
	x.free(1)
	for _, number := range append(noNumbers(), 1, 3, 4) {
		for _, off := range edges(8) {
			for _, size := range edges(8) {
				if b, e := x.m.Read(number, off, int(size)); b != nil || e != api.ErrNone {
					t.Fatalf("Read(%d, %d, %d): %v, %v", number, off, size, b, e)
				}
			}
			for _, size := range []int{0, 1, 8, 9, 5000} {
				if e := x.m.Write(number, off, make([]byte, size)); e != api.ErrNone {
					t.Fatalf("Write(%d, %d, %d bytes): %v", number, off, size, e)
				}
			}
		}
	}
	x.all()
}

// checkNothing asks a memory that is not there for everything.
func checkNothing(t *testing.T, name string, m *region.Memory) {
	t.Helper()
	for _, number := range append(noNumbers(), 1, 2) {
		if kind, size := m.Kind(number), m.Size(number); kind != 0 || size != 0 {
			t.Errorf("%s: of region %d kind %d, size %d", name, number, kind, size)
		}
		for _, off := range edges(4) {
			for _, size := range []int{-1, 0, 1, 5, math.MaxInt64} {
				if b, e := m.Read(number, off, size); b != nil || e != api.ErrNil {
					t.Errorf("%s: Read(%d, %d, %d): %v, %v", name, number, off, size, b, e)
				}
			}
			for _, b := range [][]byte{nil, row(1), row(5), row(5000)} {
				if e := m.Write(number, off, b); e != api.ErrNil {
					t.Errorf("%s: Write(%d, %d, %d bytes): %v", name, number, off, len(b), e)
				}
			}
		}
		if e := m.Free(number); e != api.ErrNil {
			t.Errorf("%s: Free(%d): %v", name, number, e)
		}
	}
	for kind := range 8 {
		for _, b := range [][]byte{nil, row(4), row(4097)} {
			if n, e := m.Make(api.RegionKind(kind), b); n != 0 || e != api.ErrNil {
				t.Errorf("%s: Make(%d, %d bytes): %d, %v", name, kind, len(b), n, e)
			}
		}
	}
}

// What New did not answer is no memory: it makes nothing, not even for a second call.
func TestP8_1NoMemory(t *testing.T) {
	var none *region.Memory
	checkNothing(t, "nil", none)
	checkNothing(t, "zero", &region.Memory{})
	checkNothing(t, "new", new(region.Memory))
	row := make([]region.Memory, 2)
	checkNothing(t, "of a slice", &row[1])
	x := newBoth(t)
	x.make(api.RegionCtx, []byte("abcd"))
	copied := *x.m
	checkNothing(t, "a copy", &copied)
	x.all()
	x.make(api.RegionValue, nil)
	x.write(1, 2, []byte("xy"))
	checkNothing(t, "a copy", &copied)
	x.all()
}

func TestP8_3Free(t *testing.T) {
	x := newBoth(t)
	for i := range 10 {
		x.make(api.RegionKind(i%5+1), row(i))
	}
	for _, number := range append(noNumbers(), 11, 12) {
		x.free(number)
		x.all()
	}
	for _, number := range []int{1, 10, 4, 4, 5, 1, 10, 7, 9, 2, 3, 6, 8, 8, 1} {
		x.free(number)
		x.all()
		for _, off := range edges(number) {
			x.read(number, off, 1)
			x.write(number, off, []byte("a"))
		}
	}
	if n := x.make(api.RegionStack, row(3)); n != 11 {
		t.Errorf("behind ten that are gone: %d", n)
	}
	x.all()
}

// No number is given twice, however many of them are free again: the last, the first, all.
func TestP8_3NeverTwice(t *testing.T) {
	for _, which := range []struct {
		name string
		free func(x *both, n int)
	}{
		{"none", func(x *both, n int) {}},
		{"the last", func(x *both, n int) { x.free(n) }},
		{"the one ahead", func(x *both, n int) { x.free(n - 1) }},
		{"one in three", func(x *both, n int) { x.free(n / 3 * 3) }},
		{"all at times", func(x *both, n int) {
			for i := 1; n%64 == 0 && i <= n; i++ {
				x.free(i)
			}
		}},
	} {
		x := newBoth(t)
		for want := 1; want <= 500; want++ {
			n := x.make(api.RegionKind(want%5+1), row(want%9))
			if n != want {
				t.Fatalf("%s: %d instead of %d", which.name, n, want)
			}
			which.free(x, n)
		}
		x.all()
	}
}

// What was freed takes no room.
func TestP8_3NothingKept(t *testing.T) {
	m := region.New()
	b := row(4096)
	var before, behind runtime.MemStats
	runtime.GC()
	runtime.ReadMemStats(&before)
	for want := 1; want <= 40000; want++ {
		n, e := m.Make(api.RegionScratch, b)
		if n != want || e != api.OK || m.Free(n) != api.OK {
			t.Fatalf("%d: %d, %v", want, n, e)
		}
	}
	runtime.GC()
	runtime.ReadMemStats(&behind)
	if behind.HeapAlloc > before.HeapAlloc+1<<20 {
		t.Errorf("%d bytes are kept of regions that are gone", behind.HeapAlloc-before.HeapAlloc)
	}
	if n, e := m.Make(api.RegionScratch, b); n != 40001 || e != api.OK {
		t.Errorf("%d, %v", n, e)
	}
}

// A write changes its bytes alone, of its region alone.
func TestP8_4ItsBytesAlone(t *testing.T) {
	x := newBoth(t)
	for kind := 1; kind <= 5; kind++ {
		x.make(api.RegionKind(kind), bytes.Repeat([]byte{byte(kind)}, 9))
	}
	x.free(2)
	for number := 1; number <= 5; number++ {
		for off := range int64(10) {
			for size := 0; size <= 9; size++ {
				x.write(number, off, bytes.Repeat([]byte{byte(100*number) + byte(off)}, size))
				x.all()
			}
		}
	}
}

// What is written is read, until it is written over.
func TestP8_4UntilWrittenOver(t *testing.T) {
	m := region.New()
	m.Make(api.RegionStack, make([]byte, 8))
	m.Make(api.RegionStack, make([]byte, 8))
	for _, x := range []struct {
		number  int
		off     int64
		b       string
		one, to string
	}{
		{1, 2, "abc", "\x00\x00abc\x00\x00\x00", "\x00\x00\x00\x00\x00\x00\x00\x00"},
		{2, 0, "ABCDEFGH", "\x00\x00abc\x00\x00\x00", "ABCDEFGH"},
		{1, 4, "xy", "\x00\x00abxy\x00\x00", "ABCDEFGH"},
		{1, 1, "123", "\x00123xy\x00\x00", "ABCDEFGH"},
		{2, 7, "h", "\x00123xy\x00\x00", "ABCDEFGh"},
		{2, 7, "hi", "\x00123xy\x00\x00", "ABCDEFGh"},
		{1, 0, "........", "........", "ABCDEFGh"},
		{2, 0, "", "........", "ABCDEFGh"},
	} {
		m.Write(x.number, x.off, []byte(x.b))
		for range 2 {
			one, _ := m.Read(1, 0, 8)
			two, _ := m.Read(2, 0, 8)
			if string(one) != x.one || string(two) != x.to {
				t.Errorf("behind Write(%d, %d, %q): %q, %q", x.number, x.off, x.b, one, two)
			}
		}
	}
}

// What was read stays as it was told.
func TestP8_4ToldApart(t *testing.T) {
	m := region.New()
	m.Make(api.RegionCtx, []byte("abcdefgh"))
	one, _ := m.Read(1, 0, 8)
	two, _ := m.Read(1, 2, 4)
	m.Write(1, 0, []byte("12345678"))
	if string(one) != "abcdefgh" || string(two) != "cdef" {
		t.Errorf("%q, %q", one, two)
	}
	overwrite(one)
	three, _ := m.Read(1, 0, 8)
	if string(two) != "cdef" || string(three) != "12345678" {
		t.Errorf("%q, %q", two, three)
	}
	m.Write(1, 1, three)
	m.Write(1, 1, three[2:6])
	m.Free(1)
	m.Make(api.RegionCtx, []byte("........"))
	if string(three) != "12345678" {
		t.Errorf("%q", three)
	}
}

// Two regions of the same bytes, and two memories, are apart.
func TestP8_4MemoriesApart(t *testing.T) {
	x, y := newBoth(t), newBoth(t)
	b := row(16)
	for _, m := range []*region.Memory{x.m, y.m} {
		for number := 1; number <= 2; number++ {
			if n, e := m.Make(api.RegionPacket, b); n != number || e != api.OK {
				t.Fatalf("%d, %v", n, e)
			}
		}
	}
	for _, z := range []*both{x, y} {
		z.want = []wantRegion{{kind: api.RegionPacket, bytes: row(16)}, {kind: api.RegionPacket, bytes: row(16)}}
	}
	overwrite(b)
	x.write(1, 3, []byte("one"))
	y.write(2, 5, []byte("two"))
	x.free(2)
	y.make(api.RegionStack, nil)
	x.all()
	y.all()
	x.make(api.RegionValue, row(3))
	y.free(1)
	x.all()
	y.all()
}

// Calls in any order, held against the chapter's words behind each.
func TestP8_4Drawn(t *testing.T) {
	draw := rand.New(rand.NewSource(8))
	for range 60 {
		x := newBoth(t)
		drawn := func(b []byte) []byte {
			draw.Read(b)
			return b
		}
		for range 120 {
			number := draw.Intn(len(x.want)+3) - 1
			size := 8
			if r := x.live(number); r != nil {
				size = len(r.bytes)
			}
			off, many := int64(draw.Intn(size+5)-2), draw.Intn(size+3)
			switch draw.Intn(8) {
			case 0, 1:
				x.make(api.RegionKind(draw.Intn(7)), drawn(make([]byte, draw.Intn(20))))
			case 2:
				x.make(api.RegionKind(draw.Intn(6)), drawn(make([]byte, 4090+draw.Intn(8))))
			case 3:
				x.free(number)
			case 4:
				x.read(number, off, many-1)
			default:
				x.write(number, off, drawn(make([]byte, many)))
			}
			x.all()
		}
	}
}

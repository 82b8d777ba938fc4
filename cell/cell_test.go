package cell_test

import (
	"bytes"
	"math"
	"math/rand"
	"testing"

	"hatchway/api"
	"hatchway/cell"
)

// The whole of what callers lean on.
var _ interface {
	Store(off int64, size int, c api.Cell) api.Errno
	Load(off int64, size int) (api.Cell, api.Errno)
	Read(off int64, size int) ([]byte, api.Errno)
	Write(off int64, b []byte) api.Errno
} = cell.New()

func TestP9_1Word(t *testing.T) {
	for _, n := range []uint64{0, 1, 2, 255, 256, 1 << 31, 1 << 32, math.MaxInt64, 1 << 63, math.MaxUint64} {
		if c := cell.Word(n); c != (api.Cell{Kind: api.CellWord, Word: n}) {
			t.Errorf("Word(%d): %+v", n, c)
		}
	}
}

func TestP9_1NewHasNothingSet(t *testing.T) {
	s := cell.New()
	for off := int64(0); off <= 512; off++ {
		if b, e := s.Read(off, 0); b != nil || e != api.OK {
			t.Fatalf("Read(%d, 0): %v, %v", off, b, e)
		}
		for size := 1; off+int64(size) <= 512; size++ {
			if b, e := s.Read(off, size); b != nil || e != api.ErrUnset {
				t.Fatalf("Read(%d, %d): %v, %v", off, size, b, e)
			}
		}
		for _, size := range []int{1, 2, 4, 8} {
			want := api.ErrUnset
			if off+int64(size) > 512 {
				want = api.ErrBounds
			}
			if c, e := s.Load(off, size); c != (api.Cell{}) || e != want {
				t.Fatalf("Load(%d, %d): %+v, %v", off, size, c, e)
			}
		}
	}
}

func TestP9_1StacksApart(t *testing.T) {
	x, y := newBoth(t), newBoth(t)
	x.store(0, 8, ptr(1, 2))
	x.store(16, 4, aWord(5))
	x.write(100, row(50))
	x.all()
	y.all()
	y.write(0, row(512))
	y.store(16, 8, aMap(3))
	x.all()
	y.all()
	newBoth(t).all()
}

// checkNothing asks a stack that is not there for everything: it doesn't matter what may not be beside that.
func checkNothing(t *testing.T, name string, s *cell.Stack) {
	t.Helper()
	cells := append(rightCells(), wrongCells()[:40]...)
	for range 2 {
		for _, off := range offs() {
			for _, size := range sizes() {
				for _, c := range cells {
					if e := s.Store(off, size, c); e != api.ErrNil {
						t.Fatalf("%s: Store(%d, %d, %+v): %v", name, off, size, c, e)
					}
				}
				if c, e := s.Load(off, size); c != (api.Cell{}) || e != api.ErrNil {
					t.Fatalf("%s: Load(%d, %d): %+v, %v", name, off, size, c, e)
				}
				if b, e := s.Read(off, size); b != nil || e != api.ErrNil {
					t.Fatalf("%s: Read(%d, %d): %v, %v", name, off, size, b, e)
				}
			}
			for _, b := range [][]byte{nil, row(1), row(8), row(512), row(513)} {
				if e := s.Write(off, b); e != api.ErrNil {
					t.Fatalf("%s: Write(%d, %d bytes): %v", name, off, len(b), e)
				}
			}
		}
	}
}

// What New did not answer is no stack.
func TestP9_1NoStack(t *testing.T) {
	var none *cell.Stack
	checkNothing(t, "nil", none)
	checkNothing(t, "zero", &cell.Stack{})
	checkNothing(t, "new", new(cell.Stack))
	stacks := make([]cell.Stack, 2)
	checkNothing(t, "of a slice", &stacks[1])
	x := newBoth(t)
	x.write(0, row(20))
	x.store(32, 8, ptr(1, 2))
	copied := *x.s
	checkNothing(t, "a copy", &copied)
	x.all()
	x.store(8, 8, aMap(1))
	x.all()
}

func TestP9_2Example(t *testing.T) {
	s := cell.New()
	if e := s.Store(0, 8, ptr(1, 2)); e != api.OK {
		t.Fatalf("Store of a pointer: %v", e)
	}
	if e := s.Store(2, 1, cell.Word(0x1234)); e != api.OK {
		t.Fatalf("Store of a word: %v", e)
	}
	if c, e := s.Load(2, 1); c != cell.Word(0x34) || e != api.OK {
		t.Fatalf("Load(2, 1): %+v, %v", c, e)
	}
	if c, e := s.Load(0, 8); c != (api.Cell{}) || e != api.ErrUnset {
		t.Fatalf("Load(0, 8): %+v, %v", c, e)
	}
}

// Each is asked of a new stack.
func TestP9_2FirstError(t *testing.T) {
	none, word, bad := api.Cell{}, aWord(1), api.Cell{Kind: 4}
	for _, x := range []struct {
		off  int64
		size int
		c    api.Cell
		e    api.Errno
	}{
		{0, 0, word, 2}, {0, 3, word, 2}, {0, 5, word, 2}, {0, 6, word, 2}, {0, 7, word, 2}, {0, 9, word, 2}, {0, 16, word, 2}, {0, -1, word, 2}, {0, -8, word, 2}, {0, 1<<32 + 8, word, 2},
		{0, 8, bad, 2}, {0, 8, api.Cell{Word: 1}, 2}, {0, 8, api.Cell{Region: 1}, 2}, {0, 8, api.Cell{Off: 1}, 2}, {0, 8, api.Cell{Kind: 1, Region: 1}, 2}, {0, 8, api.Cell{Kind: 1, Off: 1}, 2}, {0, 8, api.Cell{Kind: 2, Word: 1}, 2}, {0, 8, api.Cell{Kind: 3, Word: 1}, 2}, {0, 8, api.Cell{Kind: 3, Off: 1}, 2},
		{-1, 3, word, 2}, {512, 0, none, 2}, {4, 3, ptr(1, 1), 2}, {600, 8, bad, 2}, {-8, 8, api.Cell{Off: 1}, 2}, {4, 4, api.Cell{Kind: 2, Word: 1}, 2}, {math.MaxInt64, 3, bad, 2},
		{-1, 1, word, 32}, {512, 1, word, 32}, {511, 2, word, 32}, {510, 4, word, 32}, {505, 8, word, 32}, {-8, 8, word, 32}, {math.MaxInt64, 1, word, 32}, {math.MaxInt64 - 7, 8, word, 32}, {math.MinInt64, 8, word, 32},
		{512, 8, none, 32}, {-8, 8, none, 32}, {512, 8, ptr(1, 1), 32}, {509, 4, ptr(1, 1), 32}, {505, 8, aMap(1), 32}, {-4, 4, aMap(1), 32}, {math.MaxInt64 - 7, 8, ptr(1, 1), 32},
		{0, 8, none, 30}, {0, 4, none, 30}, {4, 8, none, 30}, {504, 8, none, 30}, {511, 1, none, 30},
		{0, 1, ptr(1, 1), 38}, {0, 2, aMap(1), 38}, {0, 4, ptr(1, 1), 38}, {1, 8, ptr(1, 1), 38}, {4, 8, aMap(1), 38}, {7, 8, ptr(1, 1), 38}, {503, 8, aMap(1), 38}, {504, 4, ptr(1, 1), 38}, {511, 1, aMap(1), 38}, {4, 8, ptr(0, 0), 38}, {4, 8, aMap(0), 38},
		{0, 8, ptr(1, 1), 0}, {504, 8, aMap(1), 0}, {511, 1, word, 0}, {510, 2, word, 0}, {508, 4, word, 0}, {503, 8, word, 0}, {3, 8, word, 0}, {0, 8, ptr(0, 0), 0}, {8, 8, aMap(0), 0},
	} {
		s := cell.New()
		if e := s.Store(x.off, x.size, x.c); e != x.e {
			t.Errorf("Store(%d, %d, %+v): %v; want %v", x.off, x.size, x.c, e, x.e)
		}
	}
}

// starts are stacks of several sorts, by name, each made anew.
func starts(t *testing.T) map[string]*both {
	bytesSet, wholes, mixed := newBoth(t), newBoth(t), newBoth(t)
	bytesSet.write(0, row(512))
	for off := int64(0); off < 512; off += 16 {
		wholes.store(off, 8, ptr(int(off), -off))
		wholes.store(off+8, 8, aMap(int(off)))
	}
	mixed.store(0, 8, ptr(1, 1))
	mixed.store(9, 2, aWord(0x0201))
	mixed.store(504, 8, aMap(5))
	mixed.write(490, row(13))
	return map[string]*both{"nothing": newBoth(t), "bytes": bytesSet, "wholes": wholes, "mixed": mixed}
}

// Every size and place with each sort of cell, and behind each a look at the whole stack, if it may have changed.
func TestP9_2EachPlace(t *testing.T) {
	for name, x := range starts(t) {
		t.Run(name, func(t *testing.T) {
			x.t = t
			for _, off := range offs() {
				for _, size := range sizes() {
					for _, c := range rightCells() {
						x.store(off, size, c)
					}
					for _, c := range wrongCells()[:60] {
						x.store(off, size, c)
					}
					x.all()
				}
			}
		})
	}
}

func TestP9_2WrongCells(t *testing.T) {
	for name, x := range starts(t) {
		t.Run(name, func(t *testing.T) {
			x.t = t
			for _, c := range wrongCells() {
				for _, size := range []int{1, 2, 4, 8, 3} {
					for _, off := range []int64{0, 8, 5, 504, 512, -8} {
						x.store(off, size, c)
					}
				}
				x.load(0, 8)
				x.load(8, 8)
			}
			x.all()
		})
	}
}

// A word's lowest bytes stand lowest first; no other byte is set.
func TestP9_2LowestFirst(t *testing.T) {
	for _, size := range []int{1, 2, 4, 8} {
		for off := int64(0); off+int64(size) <= 512; off++ {
			s := cell.New()
			if e := s.Store(off, size, cell.Word(0x8877665544332211)); e != api.OK {
				t.Fatalf("Store(%d, %d): %v", off, size, e)
			}
			for at := int64(0); at < 512; at++ {
				b, e := s.Read(at, 1)
				if at < off || at >= off+int64(size) {
					if b != nil || e != api.ErrUnset {
						t.Fatalf("behind Store(%d, %d): Read(%d): %v, %v", off, size, at, b, e)
					}
					continue
				}
				if want := byte(at-off+1) * 0x11; e != api.OK || len(b) != 1 || b[0] != want {
					t.Fatalf("behind Store(%d, %d): Read(%d): %v, %v", off, size, at, b, e)
				}
			}
		}
	}
}

// A group holds what was stored last, each sort in place of each.
func TestP9_2InPlace(t *testing.T) {
	row := []api.Cell{aWord(1), ptr(1, 2), aMap(3), ptr(0, 0), aMap(0), aWord(0), ptr(2, 1), aMap(4)}
	for _, one := range row {
		for _, two := range row {
			for off := int64(0); off < 512; off += 8 {
				x := newBoth(t)
				x.store(off, 8, one)
				x.load(off, 8)
				x.store(off, 8, two)
				x.load(off, 8)
				if off%64 == 0 {
					x.all()
				}
			}
		}
	}
}

// Behind a pointer that is gone none of the bytes that stood there ahead of it is back.
func TestP9_2NothingBack(t *testing.T) {
	for at := int64(0); at < 8; at++ {
		for _, c := range []api.Cell{ptr(1, 2), aMap(3), ptr(0, 0), aMap(0)} {
			x := newBoth(t)
			x.write(0, row(24))
			x.store(8, 8, c)
			x.all()
			x.store(8+at, 1, aWord(0xee))
			x.all()
		}
	}
}

func TestP9_3FirstError(t *testing.T) {
	s := cell.New()
	s.Store(8, 8, ptr(1, 2))
	s.Store(16, 8, aMap(3))
	s.Store(24, 8, aWord(0x8877665544332211))
	s.Store(505, 1, aWord(9))
	for _, x := range []struct {
		off  int64
		size int
		c    api.Cell
		e    api.Errno
	}{
		{8, 3, api.Cell{}, 2}, {24, 0, api.Cell{}, 2}, {24, -1, api.Cell{}, 2}, {24, 5, api.Cell{}, 2}, {24, 16, api.Cell{}, 2}, {-1, 3, api.Cell{}, 2}, {512, 0, api.Cell{}, 2}, {0, 7, api.Cell{}, 2}, {24, 1<<32 + 1, api.Cell{}, 2}, {0, math.MinInt64, api.Cell{}, 2},
		{-1, 1, api.Cell{}, 32}, {-1, 2, api.Cell{}, 32}, {-8, 8, api.Cell{}, 32}, {512, 1, api.Cell{}, 32}, {511, 2, api.Cell{}, 32}, {509, 4, api.Cell{}, 32}, {505, 8, api.Cell{}, 32}, {512, 8, api.Cell{}, 32}, {math.MaxInt64, 1, api.Cell{}, 32}, {math.MaxInt64 - 7, 8, api.Cell{}, 32}, {math.MinInt64, 8, api.Cell{}, 32}, {1<<32 + 8, 8, api.Cell{}, 32},
		{0, 8, api.Cell{}, 30}, {8, 4, api.Cell{}, 30}, {8, 1, api.Cell{}, 30}, {15, 1, api.Cell{}, 30}, {9, 8, api.Cell{}, 30}, {16, 2, api.Cell{}, 30}, {20, 8, api.Cell{}, 30}, {31, 2, api.Cell{}, 30}, {23, 2, api.Cell{}, 30}, {504, 8, api.Cell{}, 30}, {505, 2, api.Cell{}, 30}, {504, 2, api.Cell{}, 30},
		{8, 8, ptr(1, 2), 0}, {16, 8, aMap(3), 0}, {24, 8, aWord(0x8877665544332211), 0}, {24, 1, aWord(0x11), 0}, {31, 1, aWord(0x88), 0}, {25, 2, aWord(0x3322), 0}, {28, 4, aWord(0x88776655), 0}, {505, 1, aWord(9), 0},
	} {
		if c, e := s.Load(x.off, x.size); c != x.c || e != x.e {
			t.Errorf("Load(%d, %d): %+v, %v; want %+v, %v", x.off, x.size, c, e, x.c, x.e)
		}
	}
}

func TestP9_3EachPlace(t *testing.T) {
	for name, x := range starts(t) {
		t.Run(name, func(t *testing.T) {
			x.t = t
			for _, size := range sizes() {
				for off := int64(-10); off <= 522; off++ {
					x.load(off, size)
				}
				for _, off := range offs() {
					x.load(off, size)
				}
			}
		})
	}
}

// Each byte counts: of a word of which one byte is not set none is told.
func TestP9_3EachByteCounts(t *testing.T) {
	for _, size := range []int{1, 2, 4, 8} {
		for off := int64(16); off < 32; off++ {
			for hole := int64(0); hole < int64(size); hole++ {
				x := newBoth(t)
				x.write(off, row(int(hole)))
				x.write(off+hole+1, row(size-1-int(hole)))
				x.load(off, size)
				x.read(off, size)
				x.write(off+hole, []byte{0})
				x.load(off, size)
				x.read(off, size)
			}
		}
	}
}

func TestP9_4FirstError(t *testing.T) {
	s := cell.New()
	s.Write(100, []byte("abcdefghijkl"))
	s.Store(112, 8, ptr(1, 2))
	for _, x := range []struct {
		off  int64
		size int
		b    string
		e    api.Errno
	}{
		{0, -1, "", 2}, {0, 513, "", 2}, {100, 513, "", 2}, {-1, -1, "", 2}, {513, -1, "", 2}, {513, 513, "", 2}, {0, math.MaxInt64, "", 2}, {0, math.MinInt64, "", 2}, {math.MaxInt64, math.MaxInt64, "", 2}, {100, 1<<32 + 1, "", 2},
		{-1, 0, "", 32}, {513, 0, "", 32}, {-1, 1, "", 32}, {512, 1, "", 32}, {1, 512, "", 32}, {-1, 512, "", 32}, {500, 13, "", 32}, {math.MaxInt64, 0, "", 32}, {math.MaxInt64, 512, "", 32}, {math.MaxInt64 - 511, 512, "", 32}, {math.MinInt64, 0, "", 32}, {math.MinInt64, 512, "", 32}, {1 << 32, 0, "", 32}, {1<<32 + 100, 1, "", 32},
		{0, 512, "", 30}, {0, 1, "", 30}, {99, 1, "", 30}, {99, 2, "", 30}, {100, 13, "", 30}, {112, 1, "", 30}, {112, 8, "", 30}, {119, 1, "", 30}, {511, 1, "", 30}, {111, 2, "", 30},
		{0, 0, "", 0}, {512, 0, "", 0}, {115, 0, "", 0}, {100, 12, "abcdefghijkl", 0}, {100, 1, "a", 0}, {111, 1, "l", 0}, {103, 3, "def", 0}, {103, 2, "de", 0}, {104, 8, "efghijkl", 0},
	} {
		if b, e := s.Read(x.off, x.size); string(b) != x.b || e != x.e {
			t.Errorf("Read(%d, %d): %q, %v; want %q, %v", x.off, x.size, b, e, x.b, x.e)
		}
	}
	for _, x := range []struct {
		off  int64
		size int
		e    api.Errno
	}{
		{0, 513, 2}, {-1, 513, 2}, {513, 513, 2}, {math.MaxInt64, 5000, 2}, {math.MinInt64, 513, 2},
		{-1, 0, 32}, {513, 0, 32}, {-1, 1, 32}, {512, 1, 32}, {1, 512, 32}, {-1, 512, 32}, {505, 8, 32}, {math.MaxInt64, 0, 32}, {math.MaxInt64, 512, 32}, {math.MaxInt64 - 511, 512, 32}, {math.MinInt64, 0, 32}, {math.MinInt64, 512, 32}, {1<<32 + 100, 1, 32},
		{0, 0, 0}, {512, 0, 0}, {115, 0, 0},
	} {
		if e := s.Write(x.off, make([]byte, x.size)); e != x.e {
			t.Errorf("Write(%d, %d bytes): %v; want %v", x.off, x.size, e, x.e)
		}
		if b, e := s.Read(100, 12); string(b) != "abcdefghijkl" || e != api.OK {
			t.Fatalf("behind Write(%d, %d bytes): %q, %v", x.off, x.size, b, e)
		}
		if c, e := s.Load(112, 8); c != ptr(1, 2) || e != api.OK {
			t.Fatalf("behind Write(%d, %d bytes): %+v, %v", x.off, x.size, c, e)
		}
	}
}

func TestP9_4EachPlace(t *testing.T) {
	for name, x := range starts(t) {
		t.Run(name, func(t *testing.T) {
			x.t = t
			for off := int64(-2); off <= 514; off++ {
				for size := -2; size <= 515; size++ {
					x.read(off, size)
				}
			}
			for _, off := range offs() {
				for _, size := range sizes() {
					x.read(off, size)
				}
			}
		})
	}
}

// Bytes within a group, across two, across many; a look at the whole stack behind each.
func TestP9_4Write(t *testing.T) {
	for _, size := range []int{0, 1, 2, 3, 7, 8, 9, 15, 16, 17, 24, 255, 256, 500, 504, 505, 511, 512, 513, 520, 5000} {
		for _, off := range offs() {
			for name, x := range starts(t) {
				x.write(off, row(size))
				x.all()
				if t.Failed() {
					t.Fatalf("%s: Write(%d, %d bytes)", name, off, size)
				}
			}
		}
	}
}

// No bytes set none: what a group holds stays.
func TestP9_4WriteNothing(t *testing.T) {
	for name, x := range starts(t) {
		t.Run(name, func(t *testing.T) {
			x.t = t
			for off := int64(-1); off <= 513; off++ {
				x.write(off, nil)
				x.write(off, []byte{})
			}
			x.all()
		})
	}
}

// All groups hold a pointer; those alone are gone of which a byte is set.
func TestP9_4WholesGone(t *testing.T) {
	for from := int64(0); from <= 32; from++ {
		for to := from; to <= 32; to++ {
			s := cell.New()
			for off := int64(0); off < 40; off += 8 {
				s.Store(off, 8, ptr(int(off), off))
			}
			if e := s.Write(from, row(int(to-from))); e != api.OK {
				t.Fatalf("Write(%d, %d bytes): %v", from, to-from, e)
			}
			for off := int64(0); off < 40; off += 8 {
				c, e := s.Load(off, 8)
				within := 0
				for at := off; at < off+8; at++ {
					if at >= from && at < to {
						within++
					}
				}
				switch {
				case within == 0 && (c != ptr(int(off), off) || e != api.OK),
					within > 0 && within < 8 && (c != api.Cell{} || e != api.ErrUnset),
					within == 8 && (c.Kind != api.CellWord || e != api.OK):
					t.Fatalf("behind Write(%d, %d bytes): Load(%d, 8): %+v, %v", from, to-from, off, c, e)
				}
			}
		}
	}
}

// What was read stays as it was told, apart from the stack and from what else is told.
func TestP9_4ToldApart(t *testing.T) {
	s := cell.New()
	given := []byte("abcdefghijklmnop")
	s.Write(4, given)
	overwrite(given)
	one, _ := s.Read(4, 16)
	two, _ := s.Read(8, 8)
	s.Write(4, []byte("0123456789ABCDEF"))
	if string(one) != "abcdefghijklmnop" || string(two) != "efghijkl" {
		t.Fatalf("%q, %q", one, two)
	}
	overwrite(one)
	three, e := s.Read(4, 16)
	if string(two) != "efghijkl" || string(three) != "0123456789ABCDEF" || e != api.OK {
		t.Fatalf("%q, %q, %v", two, three, e)
	}
	s.Write(5, three)
	s.Store(8, 8, ptr(1, 1))
	if string(three) != "0123456789ABCDEF" {
		t.Fatalf("%q", three)
	}
	for size := 1; size <= 512; size++ {
		s.Write(0, row(512))
		b, _ := s.Read(0, size)
		overwrite(b)
		if c, e := s.Read(0, 512); !bytes.Equal(c, row(512)) || e != api.OK {
			t.Fatalf("what %d bytes were told as lies in the stack", size)
		}
	}
}

// What is stored is loaded of the same place and size, until a byte of it is set anew; what lies beside it is not.
func TestP9_5UntilSetAnew(t *testing.T) {
	for _, size := range []int{1, 2, 4, 8} {
		for off := int64(16); off <= 32; off++ {
			for at := int64(0); at < 48; at++ {
				s := cell.New()
				n := uint64(0xf8f7f6f5f4f3f2f1) >> (64 - 8*size)
				s.Store(off, size, aWord(n))
				s.Store(at, 1, aWord(7))
				c, e := s.Load(off, size)
				if beside := at < off || at >= off+int64(size); e != api.OK || (c == aWord(n)) != beside {
					t.Fatalf("Store(%d, %d), Store(%d, 1): %+v, %v", off, size, at, c, e)
				}
			}
		}
	}
	for _, stored := range []api.Cell{ptr(1, 2), aMap(3), ptr(0, 0), aMap(0)} {
		for at := int64(0); at < 48; at++ {
			s := cell.New()
			s.Store(16, 8, stored)
			s.Store(at, 1, aWord(7))
			c, e := s.Load(16, 8)
			if at < 16 || at >= 24 {
				if c != stored || e != api.OK {
					t.Fatalf("%+v, Store(%d, 1): %+v, %v", stored, at, c, e)
				}
			} else if c != (api.Cell{}) || e != api.ErrUnset {
				t.Fatalf("%+v, Store(%d, 1): %+v, %v", stored, at, c, e)
			}
		}
	}
}

// What looks at a stack, and what may not be, changes nothing.
func TestP9_5NothingChanges(t *testing.T) {
	for name, x := range starts(t) {
		t.Run(name, func(t *testing.T) {
			x.t = t
			for _, off := range offs() {
				for _, size := range sizes() {
					x.load(off, size)
					x.read(off, size)
					x.store(off, size, api.Cell{})
					x.store(off, size, api.Cell{Kind: 9})
					if !isSize(size) || off < 0 || off > 512 {
						x.store(off, size, aWord(5))
					}
					if size != 8 || off%8 != 0 {
						x.store(off, size, ptr(8, 8))
					}
				}
				x.write(off, make([]byte, 513))
				x.all()
			}
		})
	}
}

// No byte of a pointer or a map is told, by no read and no load that has one of its places.
func TestP9_5NoByteIsTold(t *testing.T) {
	for _, held := range []api.Cell{ptr(1, 2), aMap(3), ptr(0, 0), aMap(0), ptr(-1, -1)} {
		for group := int64(0); group < 512; group += 8 {
			s := cell.New()
			s.Write(0, row(512))
			s.Store(group, 8, held)
			for at := group - 9; at < group+9; at++ {
				for size := 1; size <= 24; size++ {
					touched := at < group+8 && at+int64(size) > group
					if _, e := s.Read(at, size); touched && at >= 0 && at+int64(size) <= 512 && e != api.ErrUnset {
						t.Fatalf("%+v at %d: Read(%d, %d): %v", held, group, at, size, e)
					}
					if c, e := s.Load(at, size); touched && e == api.OK && (c != held || at != group || size != 8) {
						t.Fatalf("%+v at %d: Load(%d, %d): %+v", held, group, at, size, c)
					}
				}
			}
		}
	}
}

// Calls in any order, held against the chapter's words behind each.
func TestP9_5Drawn(t *testing.T) {
	draw := rand.New(rand.NewSource(9))
	cells := append(rightCells(), wrongCells()[:30]...)
	for round := range 300 {
		x := newBoth(t)
		about := int64(draw.Intn(480))
		for range 150 {
			off := about + int64(draw.Intn(44)) - 6
			size := []int{1, 2, 4, 8, 8, 8, draw.Intn(12) - 1}[draw.Intn(7)]
			if draw.Intn(2) == 0 {
				off -= off % 8
			}
			switch draw.Intn(8) {
			case 0, 1, 2:
				x.store(off, size, cells[draw.Intn(len(cells))])
			case 3:
				x.store(off, size, aWord(draw.Uint64()))
			case 4:
				b := make([]byte, draw.Intn(24))
				draw.Read(b)
				x.write(off, b)
			case 5:
				x.load(off, size)
			default:
				x.read(off, draw.Intn(20)-1)
			}
			if round%10 == 0 {
				x.all()
			}
		}
		x.all()
	}
}

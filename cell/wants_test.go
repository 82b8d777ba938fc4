package cell_test

import (
	"bytes"
	"math"
	"math/big"
	"slices"
	"testing"

	"hatchway/api"
	"hatchway/cell"
)

// place is one of the 512 by the chapter's words.
type place struct {
	set bool
	b   byte
}

// wantStack is a stack by the chapter's words: what each place has, and what a group holds whole.
type wantStack struct {
	places [512]place
	whole  [64]api.Cell
}

// setBytes sets bytes as the words say.
func (w *wantStack) setBytes(off int64, b []byte) {
	for i := range b {
		group := (off + int64(i)) / 8
		if w.whole[group].Kind >= 2 {
			w.whole[group] = api.Cell{}
			for at := group * 8; at < group*8+8; at++ {
				w.places[at] = place{}
			}
		}
	}
	for i, c := range b {
		w.places[off+int64(i)] = place{set: true, b: c}
	}
}

// bytesAt tells the bytes from off on, and whether all of them are set.
func (w *wantStack) bytesAt(off int64, size int) ([]byte, bool) {
	var b []byte
	for at := off; at < off+int64(size); at++ {
		if w.whole[at/8].Kind >= 2 || !w.places[at].set {
			return nil, false
		}
		b = append(b, w.places[at].b)
	}
	return b, true
}

// ptr, aMap are cells by the numbers of their kinds.
func ptr(region int, off int64) api.Cell {
	return api.Cell{Kind: 2, Region: region, Off: off}
}

func aMap(handle int) api.Cell {
	return api.Cell{Kind: 3, Region: handle}
}

func aWord(n uint64) api.Cell {
	return api.Cell{Kind: 1, Word: n}
}

// isCell holds a cell against those that there are, written out part by part.
func isCell(c api.Cell) bool {
	return c == api.Cell{} || c == aWord(c.Word) || c == ptr(c.Region, c.Off) || c == aMap(c.Region)
}

func isSize(size int) bool {
	return slices.Contains([]int{1, 2, 4, 8}, size)
}

// arePlaces asks for off and size by numbers without an end.
func arePlaces(off int64, size int) bool {
	sum := new(big.Int).Add(big.NewInt(off), big.NewInt(int64(size)))
	return off >= 0 && sum.Cmp(big.NewInt(512)) <= 0
}

// both is a stack, and what it must be by the chapter's words.
type both struct {
	t    *testing.T
	s    *cell.Stack
	want *wantStack
}

func newBoth(t *testing.T) *both {
	return &both{t: t, s: cell.New(), want: &wantStack{}}
}

func (x *both) store(off int64, size int, c api.Cell) {
	x.t.Helper()
	want := api.OK
	switch {
	case !isSize(size), !isCell(c):
		want = api.ErrArg
	case !arePlaces(off, size):
		want = api.ErrBounds
	case c.Kind == 0:
		want = api.ErrUnset
	case c.Kind >= 2 && (size != 8 || off%8 != 0):
		want = api.ErrStack
	case c.Kind >= 2:
		x.want.whole[off/8] = c
		for at := off; at < off+8; at++ {
			x.want.places[at] = place{}
		}
	default:
		x.want.setBytes(off, lowest(c.Word, size))
	}
	if e := x.s.Store(off, size, c); e != want {
		x.t.Fatalf("Store(%d, %d, %+v): %v; want %v", off, size, c, e, want)
	}
}

// lowest tells the lowest size bytes of n, by division.
func lowest(n uint64, size int) []byte {
	b := make([]byte, size)
	for i := range b {
		b[i], n = byte(n%256), n/256
	}
	return b
}

// number tells the word of bytes, of which the last counts most.
func number(b []byte) uint64 {
	n := uint64(0)
	for i := len(b) - 1; i >= 0; i-- {
		n = n*256 + uint64(b[i])
	}
	return n
}

func (x *both) load(off int64, size int) {
	x.t.Helper()
	want, wanted := api.OK, api.Cell{}
	switch {
	case !isSize(size):
		want = api.ErrArg
	case !arePlaces(off, size):
		want = api.ErrBounds
	case size == 8 && off%8 == 0 && x.want.whole[off/8].Kind >= 2:
		wanted = x.want.whole[off/8]
	default:
		b, set := x.want.bytesAt(off, size)
		if set {
			wanted = aWord(number(b))
		} else {
			want = api.ErrUnset
		}
	}
	if c, e := x.s.Load(off, size); c != wanted || e != want {
		x.t.Fatalf("Load(%d, %d): %+v, %v; want %+v, %v", off, size, c, e, wanted, want)
	}
}

func (x *both) read(off int64, size int) {
	x.t.Helper()
	want, wanted := api.OK, []byte(nil)
	switch {
	case size < 0 || size > 512:
		want = api.ErrArg
	case !arePlaces(off, size):
		want = api.ErrBounds
	default:
		b, set := x.want.bytesAt(off, size)
		if set {
			wanted = b
		} else {
			want = api.ErrUnset
		}
	}
	b, e := x.s.Read(off, size)
	if e != want || !bytes.Equal(b, wanted) {
		x.t.Fatalf("Read(%d, %d): %v, %v; want %v, %v", off, size, b, e, wanted, want)
	}
	if len(b) == 0 && b != nil {
		x.t.Fatalf("Read(%d, %d): no bytes that are not nil", off, size)
	}
	overwrite(b)
}

func (x *both) write(off int64, b []byte) {
	x.t.Helper()
	want := api.OK
	switch {
	case len(b) > 512:
		want = api.ErrArg
	case !arePlaces(off, len(b)):
		want = api.ErrBounds
	default:
		x.want.setBytes(off, b)
	}
	all := slices.Concat([]byte("<<<<"), b, []byte(">>>>>>>>"))
	was := bytes.Clone(all)
	if e := x.s.Write(off, all[4:4+len(b)]); e != want {
		x.t.Fatalf("Write(%d, %d bytes): %v; want %v", off, len(b), e, want)
	}
	if !bytes.Equal(all, was) {
		x.t.Fatalf("Write(%d, %d bytes): these, or those beside them, were changed", off, len(b))
	}
	overwrite(all)
}

// all asks a stack for every byte, every group, and all bytes at once.
func (x *both) all() {
	x.t.Helper()
	for off := int64(-1); off <= 512; off++ {
		x.load(off, 1)
	}
	for off := int64(0); off < 512; off += 8 {
		x.load(off, 8)
		x.read(off, 8)
	}
	x.read(0, 512)
}

// overwrite leaves nothing of b, nor of what its memory has behind it.
func overwrite(b []byte) {
	b = b[:cap(b)]
	for i := range b {
		b[i] ^= 0x5a
	}
}

// row is so many bytes, no two of 251 alike, none of them 0.
func row(size int) []byte {
	b := make([]byte, size)
	for i := range b {
		b[i] = byte(i%251 + 1)
	}
	return b
}

// offs are places, and numbers that are none.
func offs() []int64 {
	near := []int64{math.MinInt64, math.MinInt64 + 1, math.MinInt64 + 8, math.MinInt64 + 512, -1 << 32, -512, -16, -9, -8, -7, -2, -1}
	for off := int64(0); off <= 24; off++ {
		near = append(near, off)
	}
	for off := int64(255); off <= 258; off++ {
		near = append(near, off)
	}
	for off := int64(496); off <= 520; off++ {
		near = append(near, off)
	}
	return append(near, 1024, 4096, 1<<32, 1<<32+8, math.MaxInt64-512, math.MaxInt64-511, math.MaxInt64-8, math.MaxInt64-7, math.MaxInt64-1, math.MaxInt64)
}

// sizes are those of words, all that lie between, and such as lie beyond.
func sizes() []int {
	row := []int{math.MinInt64, math.MinInt64 + 1, -1 << 32, -512, -8, -4, -2, -1}
	for size := 0; size <= 18; size++ {
		row = append(row, size)
	}
	return append(row, 32, 64, 256, 257, 258, 260, 264, 504, 511, 512, 513, 520, 1024, 1<<32+1, 1<<32+8, math.MaxInt64-7, math.MaxInt64)
}

// rightCells are cells of each kind.
func rightCells() []api.Cell {
	return []api.Cell{
		{}, aWord(0), aWord(1), aWord(0x0102030405060708), aWord(math.MaxUint64), aWord(1 << 63),
		ptr(0, 0), ptr(1, 0), ptr(0, 1), ptr(3, -8), ptr(-1, math.MinInt64), ptr(math.MaxInt64, math.MaxInt64),
		aMap(0), aMap(1), aMap(-1), aMap(math.MinInt64), aMap(math.MaxInt64),
	}
}

// wrongCells are none: of no kind, or with parts that their kind does not have.
func wrongCells() []api.Cell {
	row := []api.Cell{
		{Word: 1}, {Word: 1 << 63}, {Region: 1}, {Region: -1}, {Region: 1 << 32}, {Off: 1}, {Off: -1}, {Off: math.MinInt64},
	}
	for _, region := range []int{0, 1, -1, 1 << 32, math.MinInt64} {
		for _, off := range []int64{0, 1, -8, 1 << 32, math.MinInt64} {
			for _, word := range []uint64{0, 1, 1 << 32, 1 << 63} {
				if region != 0 || off != 0 {
					row = append(row, api.Cell{Kind: 1, Word: word, Region: region, Off: off})
				}
				if word != 0 {
					row = append(row, api.Cell{Kind: 2, Word: word, Region: region, Off: off})
				}
				if word != 0 || off != 0 {
					row = append(row, api.Cell{Kind: 3, Word: word, Region: region, Off: off})
				}
			}
		}
	}
	for kind := 4; kind < 256; kind++ {
		row = append(row, api.Cell{Kind: api.CellKind(kind)}, api.Cell{Kind: api.CellKind(kind), Word: 7, Region: 1, Off: 2})
	}
	return row
}

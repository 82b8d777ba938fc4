package tnum_test

import (
	"math"
	"math/rand"
	"testing"

	"hatchway/api"
	"hatchway/tnum"
	"hatchway/word"
)

// The chapter's words, written out bit by bit and word by word, apart from the package's own functions.

const (
	all uint64 = math.MaxUint64
	top uint64 = 1 << 63
)

func of(value, mask uint64) api.Tnum {
	return api.Tnum{Value: value, Mask: mask}
}

// from are all bits from i on.
func from(i int) uint64 {
	return ^uint64(0) << i
}

func bit(n uint64, i int) int {
	return int(n >> i & 1)
}

func wantRight(t api.Tnum) bool {
	for i := range 64 {
		if bit(t.Value, i) == 1 && bit(t.Mask, i) == 1 {
			return false
		}
	}
	return true
}

func wantHas(t api.Tnum, n uint64) bool {
	for i := range 64 {
		if bit(t.Mask, i) == 0 && bit(t.Value, i) != bit(n, i) {
			return false
		}
	}
	return wantRight(t)
}

// may is what a bit may be: 0, and 1.
type may [2]bool

func mayAt(t api.Tnum, i int) may {
	if bit(t.Mask, i) == 1 {
		return may{true, true}
	}
	return may{bit(t.Value, i) == 0, bit(t.Value, i) == 1}
}

// wantOf is the tnum whose bits may be so; each of them may be something.
func wantOf(bits [64]may) api.Tnum {
	var t api.Tnum
	for i, m := range bits {
		switch m {
		case may{true, true}:
			t.Mask |= 1 << i
		case may{false, true}:
			t.Value |= 1 << i
		case may{}:
			panic("a bit that may be nothing")
		}
	}
	return t
}

// leastOf is the least tnum that has all these words, of which there are some.
func leastOf(words ...uint64) api.Tnum {
	var bits [64]may
	for _, n := range words {
		for i := range bits {
			bits[i][bit(n, i)] = true
		}
	}
	return wantOf(bits)
}

// wordsOf are all words of a right tnum, of whose bits few are not known.
func wordsOf(t api.Tnum) []uint64 {
	words := []uint64{t.Value}
	for i := range 64 {
		if bit(t.Mask, i) == 1 {
			for _, n := range words {
				words = append(words, n|1<<i)
			}
		}
	}
	return words
}

// wantLeq asks bit by bit: each that is anything in a must be able to be it in b.
func wantLeq(a, b api.Tnum) bool {
	for i := range 64 {
		for n := range 2 {
			if mayAt(a, i)[n] && !mayAt(b, i)[n] {
				return false
			}
		}
	}
	return wantRight(a) && wantRight(b)
}

func wantMeet(a, b api.Tnum) (api.Tnum, bool) {
	var bits [64]may
	for i := range bits {
		for n := range 2 {
			bits[i][n] = mayAt(a, i)[n] && mayAt(b, i)[n]
		}
		if bits[i] == (may{}) {
			return api.Tnum{}, false
		}
	}
	if !wantRight(a) || !wantRight(b) {
		return api.Tnum{}, false
	}
	return wantOf(bits), true
}

func wantJoin(l []api.Tnum) api.Tnum {
	var bits [64]may
	some := false
	for _, t := range l {
		if !wantRight(t) {
			continue
		}
		some = true
		for i := range bits {
			for n := range 2 {
				bits[i][n] = bits[i][n] || mayAt(t, i)[n]
			}
		}
	}
	if !some {
		return of(0, all)
	}
	return wantOf(bits)
}

// wantRange: a bit is known, if it and all above it are the same at both ends; else words that are one apart from there on lie between them.
func wantRange(lo, hi uint64) api.Tnum {
	if lo > hi {
		return of(0, all)
	}
	var bits [64]may
	for i := range bits {
		if lo>>i == hi>>i {
			bits[i][bit(lo, i)] = true
		} else {
			bits[i] = may{true, true}
		}
	}
	return wantOf(bits)
}

// bitwise tells what becomes of two bits and of what was carried, and what is carried on.
func bitwise(op uint8, a, b, carried int) (n, on int) {
	switch op {
	case api.AluAdd:
		sum := a + b + carried
		return sum % 2, sum / 2
	case api.AluSub:
		left := a - b - carried + 2
		return left % 2, 1 - left/2
	case api.AluAnd:
		return a * b, 0
	case api.AluOr:
		return max(a, b), 0
	case api.AluXor:
		return (a + b) % 2, 0
	}
	panic("no such operation")
}

// wantCarried goes from the lowest bit on with all that may be carried: bits of a, of b, and what is carried into them hang on nothing together.
func wantCarried(op uint8, a, b api.Tnum) api.Tnum {
	var bits [64]may
	carried := may{true, false}
	for i := range bits {
		var next may
		for n := range 8 {
			x, y, c := n&1, n>>1&1, n>>2
			if mayAt(a, i)[x] && mayAt(b, i)[y] && carried[c] {
				is, on := bitwise(op, x, y, c)
				bits[i][is], next[on] = true, true
			}
		}
		carried = next
	}
	return wantOf(bits)
}

func lowKnown(t api.Tnum) int {
	for i := range 64 {
		if bit(t.Mask, i) == 1 {
			return i
		}
	}
	return 64
}

func wantProduct(a, b api.Tnum) api.Tnum {
	n := wordAlu(api.AluMul, a.Value, b.Value)
	known := min(lowKnown(a), lowKnown(b))
	var bits [64]may
	for i := range bits {
		bits[i] = may{true, true}
		if i < known {
			bits[i] = mayAt(of(n, 0), i)
		}
	}
	return wantOf(bits)
}

// ops are those of Do, carriers those of them of which the least is told; shifts are those of Shift.
func ops() []uint8      { return append(carriers(), api.AluMul) }
func carriers() []uint8 { return []uint8{api.AluAdd, api.AluSub, api.AluAnd, api.AluOr, api.AluXor} }
func shifts() []uint8   { return []uint8{api.AluLsh, api.AluRsh, api.AluArsh} }

func wantDo(op uint8, a, b api.Tnum) (api.Tnum, bool) {
	if !wantRight(a) || !wantRight(b) {
		return api.Tnum{}, false
	}
	switch op {
	case 0x00, 0x10, 0x40, 0x50, 0xa0:
		return wantCarried(op, a, b), true
	case 0x20:
		return wantProduct(a, b), true
	}
	return api.Tnum{}, false
}

func wantShift(op uint8, a api.Tnum, by int) (api.Tnum, bool) {
	if !wantRight(a) || by < 0 || by > 63 || op != 0x60 && op != 0x70 && op != 0xc0 {
		return api.Tnum{}, false
	}
	var bits [64]may
	for i := range bits {
		at := i + by
		if op == 0x60 {
			at = i - by
		}
		switch {
		case at >= 0 && at < 64:
			bits[i] = mayAt(a, at)
		case op == 0xc0:
			bits[i] = mayAt(a, 63)
		default:
			bits[i] = may{true, false}
		}
	}
	return wantOf(bits), true
}

func wantLow(t api.Tnum, bytes int) (api.Tnum, bool) {
	if !wantRight(t) || bytes != 1 && bytes != 2 && bytes != 4 && bytes != 8 {
		return api.Tnum{}, false
	}
	var bits [64]may
	for i := range bits {
		bits[i] = may{true, false}
		if i < 8*bytes {
			bits[i] = mayAt(t, i)
		}
	}
	return wantOf(bits), true
}

// wordAlu is what chapter 1 makes of two words; there must be something.
func wordAlu(op uint8, a, b uint64) uint64 {
	n, ok := word.Alu(op, 0, true, a, b)
	if !ok {
		panic("no such operation of words")
	}
	return n
}

// tnumsAt are all right tnums whose bits at these places are anything, and the others known, those of rest.
func tnumsAt(rest uint64, places ...int) []api.Tnum {
	told := []api.Tnum{of(rest, 0)}
	for _, i := range places {
		b := uint64(1) << i
		var more []api.Tnum
		for _, t := range told {
			more = append(more, of(t.Value&^b, t.Mask), of(t.Value|b, t.Mask), of(t.Value&^b, t.Mask|b))
		}
		told = more
	}
	return told
}

// fewBits are rows of tnums of few bits: the lowest, the highest, some in between and at both ends, with all kinds of bits beside them.
func fewBits() [][]api.Tnum {
	var rows [][]api.Tnum
	for _, rest := range []uint64{0, all, 0x5555555555555555, 0xfffffffffffffff8, 0x1ffffffffffffffe} {
		for _, places := range [][]int{{0, 1, 2}, {61, 62, 63}, {0, 31, 63}, {30, 32, 33}, {0, 1, 63}} {
			rows = append(rows, tnumsAt(rest, places...))
		}
	}
	return rows
}

// edges are right tnums: of one word, of all words, and of much in between.
func edges() []api.Tnum {
	told := []api.Tnum{
		of(0, all), of(0, all-1), of(1, all-1), of(0, all>>1), of(top, all>>1), of(0, from(2)), of(1, from(2)), of(3, from(3)),
		of(0, 1), of(0, top), of(1, top), of(top, 1), of(0, top+1), of(all>>1, top), of(all-1, 1), of(0, 0xff), of(0x1ff, 0x600),
		of(0, math.MaxUint32), of(0, from(32)), of(math.MaxUint32, from(32)), of(from(32), math.MaxUint32), of(0, 0x8080808080808080),
		of(0x5555555555555555, 0xaaaaaaaaaaaaaaaa), of(0, 0x5555555555555555), of(0xf0f0f0f0f0f0f0f0, 0x0f0f0f0f0f0f0f0f),
	}
	for _, n := range words() {
		told = append(told, of(n, 0))
	}
	return told
}

// wrongs are tnums that are not right.
func wrongs() []api.Tnum {
	told := []api.Tnum{of(all, all), of(1, all), of(all, 1), of(3, 1), of(1, 3), of(6, 12), of(top, top), of(all, top), of(top, all), of(0x5555555555555555, 1<<32)}
	for i := range 64 {
		told = append(told, of(1<<i, 1<<i), of(all, 1<<i), of(1<<i, all))
	}
	return told
}

// words are the edges of what a word may be, and some between them.
func words() []uint64 {
	told := []uint64{0, 5, 7, 12, 0x123456789abcdef0, 0xfedcba9876543210}
	for _, size := range []int{0, 1, 7, 8, 15, 16, 31, 32, 33, 62, 63} {
		edge := uint64(1) << size
		told = append(told, edge-1, edge, edge+1, -edge, -edge-1, -edge+1)
	}
	return told
}

// numbers are those that may be none of a shift's places, nor of a word's bytes.
func numbers() []int {
	told := []int{math.MinInt, math.MinInt + 1, math.MinInt + 8, math.MinInt32 - 1, math.MinInt32, math.MaxInt32, math.MaxInt32 + 1, 1 << 32, 1<<32 + 1, 1<<32 + 8, 1<<61 + 1, 1 << 62, math.MaxInt - 63, math.MaxInt - 1, math.MaxInt}
	for n := -300; n <= 300; n++ {
		told = append(told, n)
	}
	return told
}

// drawing draws tnums of all sorts.
type drawing struct{ *rand.Rand }

func newDrawing(seed int64) drawing {
	return drawing{rand.New(rand.NewSource(seed))}
}

// word has few bits set, or many, or a run of them.
func (d drawing) word() uint64 {
	n := d.Uint64()
	switch d.Intn(8) {
	case 0:
		return n & d.Uint64()
	case 1:
		return n & d.Uint64() & d.Uint64() & d.Uint64()
	case 2:
		return n | d.Uint64()
	case 3:
		return n | d.Uint64() | d.Uint64() | d.Uint64()
	case 4:
		return all >> d.Intn(65) << d.Intn(65)
	case 5:
		return ^uint64(all >> d.Intn(65) << d.Intn(65))
	case 6:
		return 1 << d.Intn(64)
	}
	return n
}

func (d drawing) tnum() api.Tnum {
	mask := d.word()
	return of(d.word()&^mask, mask)
}

// wordOf is any word of a right tnum.
func (d drawing) wordOf(t api.Tnum) uint64 {
	return t.Value | d.word()&t.Mask
}

// either draws a tnum that may be wrong.
func (d drawing) either() api.Tnum {
	if d.Intn(6) == 0 {
		return of(d.word(), d.word())
	}
	return d.tnum()
}

// The checks hold one answer against the chapter's words, each asked twice (R4).

func checkRight(t *testing.T, x api.Tnum) {
	t.Helper()
	for range 2 {
		if got, want := tnum.Right(x), wantRight(x); got != want {
			t.Fatalf("Right(%x) = %v", x, got)
		}
	}
}

func checkHas(t *testing.T, x api.Tnum, n uint64) {
	t.Helper()
	for range 2 {
		if got, want := tnum.Has(x, n), wantHas(x, n); got != want {
			t.Fatalf("Has(%x, %x) = %v", x, n, got)
		}
	}
}

func checkLeq(t *testing.T, a, b api.Tnum) {
	t.Helper()
	for range 2 {
		if got, want := tnum.Leq(a, b), wantLeq(a, b); got != want {
			t.Fatalf("Leq(%x, %x) = %v", a, b, got)
		}
	}
}

func checkMeet(t *testing.T, a, b api.Tnum) {
	t.Helper()
	want, wantOk := wantMeet(a, b)
	for range 2 {
		if got, ok := tnum.Meet(a, b); got != want || ok != wantOk {
			t.Fatalf("Meet(%x, %x) = %x, %v, want %x, %v", a, b, got, ok, want, wantOk)
		}
	}
}

// checkJoin also looks at what is joined, and at what lies behind it in its memory, whether it stays as it was (R3).
func checkJoin(t *testing.T, l ...api.Tnum) {
	t.Helper()
	const spare = 3
	row := append(append([]api.Tnum{}, l...), make([]api.Tnum, spare)...)
	for i := range spare {
		row[len(l)+i] = of(9, 6)
	}
	was := append([]api.Tnum{}, row...)
	want := wantJoin(l)
	for range 2 {
		if got := tnum.Join(row[:len(l)]...); got != want {
			t.Fatalf("Join(%x) = %x, want %x", l, got, want)
		}
	}
	for i := range row {
		if row[i] != was[i] {
			t.Fatalf("Join(%x): of what was joined, and lies behind it, %d is %x now", l, i, row[i])
		}
	}
}

func checkRange(t *testing.T, lo, hi uint64) {
	t.Helper()
	want := wantRange(lo, hi)
	for range 2 {
		if got := tnum.Range(lo, hi); got != want {
			t.Fatalf("Range(%x, %x) = %x, want %x", lo, hi, got, want)
		}
	}
}

func checkDo(t *testing.T, op uint8, a, b api.Tnum) {
	t.Helper()
	want, wantOk := wantDo(op, a, b)
	for range 2 {
		if got, ok := tnum.Do(op, a, b); got != want || ok != wantOk {
			t.Fatalf("Do(%#x, %x, %x) = %x, %v, want %x, %v", op, a, b, got, ok, want, wantOk)
		}
	}
}

func checkShift(t *testing.T, op uint8, a api.Tnum, by int) {
	t.Helper()
	want, wantOk := wantShift(op, a, by)
	for range 2 {
		if got, ok := tnum.Shift(op, a, by); got != want || ok != wantOk {
			t.Fatalf("Shift(%#x, %x, %d) = %x, %v, want %x, %v", op, a, by, got, ok, want, wantOk)
		}
	}
}

func checkLow(t *testing.T, x api.Tnum, bytes int) {
	t.Helper()
	want, wantOk := wantLow(x, bytes)
	for range 2 {
		if got, ok := tnum.Low(x, bytes); got != want || ok != wantOk {
			t.Fatalf("Low(%x, %d) = %x, %v, want %x, %v", x, bytes, got, ok, want, wantOk)
		}
	}
}

package word

import (
	"encoding/binary"
	"math"
	"math/big"
	"math/rand"
	"testing"

	"hatchway/api"
)

// words are the edges of both widths and of each size that can be widened, and some words between them.
func words() []uint64 {
	all := []uint64{0, 5, 7, 9, 0x1234, 0x123456789abcdef0, 0xfedcba9876543210}
	for _, size := range []int{1, 5, 7, 8, 15, 16, 31, 32, 33, 63} {
		edge := uint64(1) << size
		all = append(all, edge-1, edge, edge+1, -edge, -edge-1, -edge+1)
	}
	draw := rand.New(rand.NewSource(1))
	for range 10 {
		all = append(all, draw.Uint64(), draw.Uint64()>>32)
	}
	return all
}

func widthIf(wide bool) int {
	if wide {
		return 64
	}
	return 32
}

// plain is what the lowest bits of n stand for without a sign, signed what they stand for with one.
func plain(n uint64, width int) *big.Int {
	return new(big.Int).Mod(new(big.Int).SetUint64(n), power(width))
}

func signed(n uint64, width int) *big.Int {
	x := plain(n, width)
	if x.Cmp(power(width-1)) >= 0 {
		x.Sub(x, power(width))
	}
	return x
}

func power(n int) *big.Int { return new(big.Int).Lsh(big.NewInt(1), uint(n)) }

// asWord is x modulo 2 to the power of width.
func asWord(x *big.Int, width int) uint64 {
	return new(big.Int).Mod(x, power(width)).Uint64()
}

// wantAlu is P1.1's table, in whole numbers without bounds; nil, if the table has not that op and off.
func wantAlu(op uint8, off int16, width int, a, b uint64) *big.Int {
	x, y, sx, sy := plain(a, width), plain(b, width), signed(a, width), signed(b, width)
	shift := uint(new(big.Int).Mod(y, big.NewInt(int64(width))).Uint64())
	z := new(big.Int)
	if off != 0 {
		return wantVariant(op, off, width, b, sx, sy)
	}
	switch op {
	case api.AluAdd:
		return z.Add(x, y)
	case api.AluSub:
		return z.Sub(x, y)
	case api.AluMul:
		return z.Mul(x, y)
	case api.AluDiv:
		if y.Sign() == 0 {
			return z
		}
		return z.Quo(x, y)
	case api.AluMod:
		if y.Sign() == 0 {
			return x
		}
		return z.Rem(x, y)
	case api.AluOr:
		return z.Or(x, y)
	case api.AluAnd:
		return z.And(x, y)
	case api.AluXor:
		return z.Xor(x, y)
	case api.AluLsh:
		return z.Lsh(x, shift)
	case api.AluRsh:
		return z.Rsh(x, shift)
	case api.AluArsh:
		return z.Rsh(sx, shift)
	case api.AluNeg:
		return z.Neg(x)
	case api.AluMov:
		return y
	}
	return nil
}

func wantVariant(op uint8, off int16, width int, b uint64, sx, sy *big.Int) *big.Int {
	z := new(big.Int)
	switch {
	case op == api.AluDiv && off == 1 && sy.Sign() == 0:
		return z
	case op == api.AluDiv && off == 1:
		return z.Quo(sx, sy)
	case op == api.AluMod && off == 1 && sy.Sign() == 0:
		return sx
	case op == api.AluMod && off == 1:
		return z.Rem(sx, sy)
	case op == api.AluMov && (off == 8 || off == 16 || off == 32 && width == 64):
		return signed(b, int(off))
	}
	return nil
}

func checkAlu(t *testing.T, op uint8, off int16, wide bool, a, b uint64) {
	t.Helper()
	width := widthIf(wide)
	want, wantOk := uint64(0), false
	if x := wantAlu(op, off, width, a, b); x != nil {
		want, wantOk = asWord(x, width), true
	}
	if n, ok := Alu(op, off, wide, a, b); n != want || ok != wantOk {
		t.Errorf("Alu(%#x, %d, %v, %#x, %#x) = %#x, %v, want %#x, %v", op, off, wide, a, b, n, ok, want, wantOk)
	}
}

func TestP1_1Alu(t *testing.T) {
	const least, low = 1 << 63, 1<<64 - 1<<31 // the least word, the least low part as a word
	for _, c := range []struct {
		op   uint8
		off  int16
		wide bool
		a, b uint64
		want uint64
	}{
		{api.AluAdd, 0, true, math.MaxUint64, 2, 1},
		{api.AluAdd, 0, false, 7<<32 + math.MaxUint32, 9<<32 + 2, 1},
		{api.AluSub, 0, true, 3, 5, 1<<64 - 2},
		{api.AluSub, 0, false, 3, 5, 1<<32 - 2},
		{api.AluMul, 0, true, 1 << 63, 2, 0},
		{api.AluMul, 0, false, 1<<32 - 1, 1<<32 - 1, 1},
		{api.AluDiv, 0, true, 7, 2, 3},
		{api.AluDiv, 0, true, 1<<64 - 7, 2, 1<<63 - 4},
		{api.AluDiv, 0, true, 7, 0, 0},
		{api.AluDiv, 0, false, 7, 1 << 32, 0}, // the low part of b is 0
		{api.AluDiv, 1, true, 1<<64 - 7, 2, 1<<64 - 3},
		{api.AluDiv, 1, true, 7, 1<<64 - 2, 1<<64 - 3},
		{api.AluDiv, 1, true, 1<<64 - 7, 0, 0},
		{api.AluDiv, 1, true, least, math.MaxUint64, least},
		{api.AluDiv, 1, false, 1 << 31, math.MaxUint32, 1 << 31},
		{api.AluDiv, 1, false, low, math.MaxUint64, 1 << 31},
		{api.AluDiv, 1, false, 1<<32 - 7, 2, 1<<32 - 3},
		{api.AluDiv, 1, false, 7, 3 << 32, 0},
		{api.AluMod, 0, true, 7, 4, 3},
		{api.AluMod, 0, true, 7, 0, 7},
		{api.AluMod, 0, false, 1<<32 + 7, 0, 7},
		{api.AluMod, 1, true, 1<<64 - 7, 2, 1<<64 - 1},
		{api.AluMod, 1, true, 7, 1<<64 - 2, 1},
		{api.AluMod, 1, true, 1<<64 - 7, 0, 1<<64 - 7},
		{api.AluMod, 1, true, least, math.MaxUint64, 0},
		{api.AluMod, 1, false, 1 << 31, math.MaxUint32, 0},
		{api.AluMod, 1, false, 5<<32 + 1<<31, 1 << 32, 1 << 31},
		{api.AluOr, 0, true, 5 << 40, 2, 5<<40 + 2},
		{api.AluAnd, 0, false, 7<<40 + 5, 7<<40 + 4, 4},
		{api.AluXor, 0, false, 1 << 40, 1, 1},
		{api.AluLsh, 0, true, 1, 32, 1 << 32},
		{api.AluLsh, 0, true, 1, 64, 1},
		{api.AluLsh, 0, true, 1, 65, 2},
		{api.AluLsh, 0, false, 3, 31, 1 << 31},
		{api.AluLsh, 0, false, 1, 32, 1},
		{api.AluLsh, 0, false, 1, 64, 1},
		{api.AluLsh, 0, false, 1, 33, 2},
		{api.AluRsh, 0, true, 1 << 63, 63, 1},
		{api.AluRsh, 0, true, 1 << 63, 64, 1 << 63},
		{api.AluRsh, 0, false, 1<<40 + 1<<31, 31, 1},
		{api.AluRsh, 0, false, 2, 1<<32 + 33, 1},
		{api.AluArsh, 0, true, 1 << 63, 1, 1<<63 + 1<<62},
		{api.AluArsh, 0, true, 1<<64 - 3, 1, 1<<64 - 2},
		{api.AluArsh, 0, true, 1 << 31, 31, 1},
		{api.AluArsh, 0, true, 1 << 63, 127, math.MaxUint64},
		{api.AluArsh, 0, false, 1 << 31, 31, math.MaxUint32},
		{api.AluArsh, 0, false, 1 << 63, 1, 0}, // no sign in the low part
		{api.AluArsh, 0, false, 1 << 31, 64, 1 << 31},
		{api.AluNeg, 0, true, 1, 9, math.MaxUint64},
		{api.AluNeg, 0, true, least, 9, least},
		{api.AluNeg, 0, false, 1, 9, math.MaxUint32},
		{api.AluMov, 0, true, 3, 1<<32 + 5, 1<<32 + 5},
		{api.AluMov, 0, false, 3, 1<<32 + 5, 5},
		{api.AluMov, 8, true, 3, 0x17f, 0x7f},
		{api.AluMov, 8, true, 3, 0x180, 1<<64 - 0x80},
		{api.AluMov, 8, false, 3, 0x1ff, math.MaxUint32},
		{api.AluMov, 16, true, 3, 0x8000, 1<<64 - 0x8000},
		{api.AluMov, 16, false, 3, 0x18000, 0xffff8000},
		{api.AluMov, 32, true, 3, 1 << 31, 1<<64 - 1<<31},
		{api.AluMov, 32, true, 3, 1<<40 + 1, 1},
	} {
		if n, ok := Alu(c.op, c.off, c.wide, c.a, c.b); n != c.want || !ok {
			t.Errorf("Alu(%#x, %d, %v, %#x, %#x) = %#x, %v, want %#x", c.op, c.off, c.wide, c.a, c.b, n, ok, c.want)
		}
	}
}

// Each op and off of the table meets all edges, and is held against numbers without bounds.
func TestP1_1AluEdges(t *testing.T) {
	all := words()
	for op := 0; op < 256; op += 16 {
		for _, off := range []int16{0, 1, 8, 16, 32} {
			if wantAlu(uint8(op), off, 64, 1, 1) == nil {
				continue
			}
			for _, a := range all {
				for _, b := range all {
					checkAlu(t, uint8(op), off, true, a, b)
					checkAlu(t, uint8(op), off, false, a, b)
				}
			}
		}
	}
}

// All bits of op and of off count: what is near to an operation is none.
func TestP1_1AluNone(t *testing.T) {
	near := []int16{0, 1, 2, 7, 8, 9, 15, 16, 17, 24, 31, 32, 33, 64, 128, 256, 256 + 1, 256 + 8, 256 + 16, 256 + 32, 1 << 12, 1<<14 + 1, -1, -8, -16, -32, math.MaxInt16, math.MinInt16, math.MinInt16 + 1, math.MinInt16 + 8}
	for op := range 256 {
		for _, off := range near {
			checkAlu(t, uint8(op), off, true, 1<<64-7, 3)
			checkAlu(t, uint8(op), off, false, 1<<32-7, 3)
		}
	}
	for _, op := range []uint8{api.AluAdd, api.AluDiv, api.AluMov} {
		for off := math.MinInt16; off <= math.MaxInt16; off++ {
			checkAlu(t, op, int16(off), off%2 == 0, 9, 3)
		}
	}
}

func TestP1_2Swap(t *testing.T) {
	for _, c := range []struct {
		order, bits int
		n, want     uint64
	}{
		{1, 16, 0x1234, 0x3412},
		{0, 16, 0x123456, 0x3456},
		{0, 32, 0x123456789abcdef0, 0x9abcdef0},
		{0, 64, 0x123456789abcdef0, 0x123456789abcdef0},
		{1, 16, 0x123456, 0x5634},
		{2, 16, 0x123456, 0x5634},
		{1, 32, 0x9912345678, 0x78563412},
		{2, 32, 0x12345678, 0x78563412},
		{1, 64, 0x0123456789abcdef, 0xefcdab8967452301},
		{2, 64, 1, 1 << 56},
		{2, 64, 0, 0},
	} {
		if n, ok := Swap(c.order, c.bits, c.n); n != c.want || !ok {
			t.Errorf("Swap(%d, %d, %#x) = %#x, %v, want %#x", c.order, c.bits, c.n, n, ok, c.want)
		}
	}
}

func TestP1_2SwapEdges(t *testing.T) {
	for _, n := range words() {
		row := binary.LittleEndian.AppendUint64(nil, n)
		straight := map[int]uint64{16: uint64(uint16(n)), 32: uint64(uint32(n)), 64: n}
		turned := map[int]uint64{16: uint64(binary.BigEndian.Uint16(row)), 32: uint64(binary.BigEndian.Uint32(row)), 64: binary.BigEndian.Uint64(row)}
		for bits, want := range straight {
			if got, ok := Swap(0, bits, n); got != want || !ok {
				t.Errorf("Swap(0, %d, %#x) = %#x, %v, want %#x", bits, n, got, ok, want)
			}
			for order := 1; order <= 2; order++ {
				if got, ok := Swap(order, bits, n); got != turned[bits] || !ok {
					t.Errorf("Swap(%d, %d, %#x) = %#x, %v, want %#x", order, bits, n, got, ok, turned[bits])
				}
			}
		}
	}
}

func TestP1_2SwapNone(t *testing.T) {
	orders := []int{math.MinInt, -1 << 32, -2, -1, 0, 1, 2, 3, 4, 16, 1 << 32, 1<<32 + 1, math.MaxInt}
	sizes := []int{math.MinInt, -64, -32, -16, -1, 0, 1, 2, 4, 8, 15, 16, 17, 24, 31, 32, 33, 48, 63, 64, 65, 128, 1<<32 + 16, math.MaxInt}
	for _, order := range orders {
		for _, bits := range sizes {
			right := order >= 0 && order <= 2 && (bits == 16 || bits == 32 || bits == 64)
			if n, ok := Swap(order, bits, math.MaxUint64); ok != right || !right && n != 0 {
				t.Errorf("Swap(%d, %d) = %#x, %v", order, bits, n, ok)
			}
		}
	}
}

// wantTest is P1.3 in whole numbers without bounds; ok is false, if op is no comparison.
func wantTest(op uint8, width int, a, b uint64) (is, ok bool) {
	order, signedOrder := plain(a, width).Cmp(plain(b, width)), signed(a, width).Cmp(signed(b, width))
	switch op {
	case api.JmpEq:
		return order == 0, true
	case api.JmpNe:
		return order != 0, true
	case api.JmpGt:
		return order > 0, true
	case api.JmpGe:
		return order >= 0, true
	case api.JmpLt:
		return order < 0, true
	case api.JmpLe:
		return order <= 0, true
	case api.JmpSgt:
		return signedOrder > 0, true
	case api.JmpSge:
		return signedOrder >= 0, true
	case api.JmpSlt:
		return signedOrder < 0, true
	case api.JmpSle:
		return signedOrder <= 0, true
	case api.JmpSet:
		return new(big.Int).And(plain(a, width), plain(b, width)).Sign() != 0, true
	}
	return false, false
}

func checkTest(t *testing.T, op uint8, wide bool, a, b uint64) {
	t.Helper()
	want, wantOk := wantTest(op, widthIf(wide), a, b)
	if is, ok := Test(op, wide, a, b); is != want || ok != wantOk {
		t.Errorf("Test(%#x, %v, %#x, %#x) = %v, %v, want %v, %v", op, wide, a, b, is, ok, want, wantOk)
	}
}

func TestP1_3Test(t *testing.T) {
	for _, c := range []struct {
		op   uint8
		wide bool
		a, b uint64
		is   bool
	}{
		{api.JmpEq, true, 5, 5, true}, {api.JmpEq, true, 1 << 32, 0, false}, {api.JmpEq, false, 1 << 32, 0, true},
		{api.JmpNe, true, 5, 5, false}, {api.JmpNe, true, 1 << 32, 0, true}, {api.JmpNe, false, 1 << 32, 0, false},
		{api.JmpGt, true, 5, 5, false}, {api.JmpGt, true, math.MaxUint64, 1, true}, {api.JmpGt, false, 1 << 32, 1, false},
		{api.JmpGe, true, 5, 5, true}, {api.JmpGe, true, 1, math.MaxUint64, false}, {api.JmpGe, false, 1 << 32, 1, false},
		{api.JmpLt, true, 5, 5, false}, {api.JmpLt, true, 1, math.MaxUint64, true}, {api.JmpLt, false, 1 << 32, 1, true},
		{api.JmpLe, true, 5, 5, true}, {api.JmpLe, true, math.MaxUint64, 1, false}, {api.JmpLe, false, 1 << 32, 1, true},
		{api.JmpSgt, true, 5, 5, false}, {api.JmpSgt, true, 1, math.MaxUint64, true}, {api.JmpSgt, false, 0, 1 << 31, true}, {api.JmpSgt, true, 0, 1 << 31, false},
		{api.JmpSge, true, 5, 5, true}, {api.JmpSge, true, math.MaxUint64, 1, false}, {api.JmpSge, false, 1 << 31, 0, false}, {api.JmpSge, true, 1 << 31, 0, true},
		{api.JmpSlt, true, 5, 5, false}, {api.JmpSlt, true, 1 << 63, 0, true}, {api.JmpSlt, false, 1 << 31, 0, true}, {api.JmpSlt, true, 1 << 31, 0, false},
		{api.JmpSle, true, 5, 5, true}, {api.JmpSle, true, 0, 1 << 63, false}, {api.JmpSle, false, 0, 1 << 31, false}, {api.JmpSle, true, 0, 1 << 31, true},
		{api.JmpSet, true, 6, 9, false}, {api.JmpSet, true, 6, 2, true}, {api.JmpSet, true, 1 << 40, 1 << 40, true}, {api.JmpSet, false, 1 << 40, 1 << 40, false}, {api.JmpSet, true, 0, 0, false},
	} {
		if is, ok := Test(c.op, c.wide, c.a, c.b); is != c.is || !ok {
			t.Errorf("Test(%#x, %v, %#x, %#x) = %v, %v, want %v", c.op, c.wide, c.a, c.b, is, ok, c.is)
		}
	}
}

func TestP1_3TestEdges(t *testing.T) {
	all := words()
	for op := 0; op < 256; op += 16 {
		for _, a := range all {
			for _, b := range all {
				checkTest(t, uint8(op), true, a, b)
				checkTest(t, uint8(op), false, a, b)
			}
		}
	}
}

// All bits of op count; a jump always, a call and an exit are no comparisons, even of what would be true of any.
func TestP1_3TestNone(t *testing.T) {
	for op := range 256 {
		for _, wide := range []bool{true, false} {
			checkTest(t, uint8(op), wide, 5, 5)
			checkTest(t, uint8(op), wide, 1, math.MaxUint64)
			checkTest(t, uint8(op), wide, math.MaxUint64, 1)
		}
	}
	for _, op := range []uint8{api.JmpJa, api.JmpCall, api.JmpExit, 0xe0, 0xf0, api.JmpEq | api.SrcReg, api.JmpEq | api.ClassJmp} {
		if is, ok := Test(op, true, 5, 5); is || ok {
			t.Errorf("Test(%#x) = %v, %v", op, is, ok)
		}
	}
}

func TestP1_4Extend(t *testing.T) {
	for _, c := range []struct {
		n      uint64
		bytes  int
		signed bool
		want   uint64
	}{
		{0xff80, 1, false, 0x80}, {0xff80, 1, true, 1<<64 - 0x80}, {0xff7f, 1, true, 0x7f},
		{0xff8000, 2, false, 0x8000}, {0xff8000, 2, true, 1<<64 - 0x8000}, {0xff7fff, 2, true, 0x7fff},
		{0xff80000000, 4, false, 1 << 31}, {0xff80000000, 4, true, 1<<64 - 1<<31}, {0xff7fffffff, 4, true, 1<<31 - 1},
		{1 << 63, 8, false, 1 << 63}, {1 << 63, 8, true, 1 << 63}, {math.MaxUint64, 8, true, math.MaxUint64},
	} {
		if n, ok := Extend(c.n, c.bytes, c.signed); n != c.want || !ok {
			t.Errorf("Extend(%#x, %d, %v) = %#x, %v, want %#x", c.n, c.bytes, c.signed, n, ok, c.want)
		}
	}
}

func TestP1_4ExtendEdges(t *testing.T) {
	for _, n := range words() {
		for _, bytes := range []int{1, 2, 4, 8} {
			if got, ok := Extend(n, bytes, false); got != asWord(plain(n, 8*bytes), 64) || !ok {
				t.Errorf("Extend(%#x, %d, false) = %#x, %v", n, bytes, got, ok)
			}
			if got, ok := Extend(n, bytes, true); got != asWord(signed(n, 8*bytes), 64) || !ok {
				t.Errorf("Extend(%#x, %d, true) = %#x, %v", n, bytes, got, ok)
			}
		}
	}
}

func TestP1_4ExtendNone(t *testing.T) {
	for _, bytes := range []int{math.MinInt, -8, -4, -2, -1, 0, 3, 5, 6, 7, 9, 16, 32, 64, 1<<32 + 1, 1<<61 + 1, math.MaxInt} {
		for _, sign := range []bool{true, false} {
			if n, ok := Extend(math.MaxUint64, bytes, sign); n != 0 || ok {
				t.Errorf("Extend(%d, %v) = %#x, %v", bytes, sign, n, ok)
			}
		}
	}
}

func TestP1_5JustOneComparison(t *testing.T) {
	all := words()
	for _, pair := range [][2]uint8{{api.JmpGt, api.JmpLe}, {api.JmpSgt, api.JmpSle}, {api.JmpEq, api.JmpNe}} {
		for _, a := range all {
			for _, b := range all {
				for _, wide := range []bool{true, false} {
					one, _ := Test(pair[0], wide, a, b)
					other, _ := Test(pair[1], wide, a, b)
					if one == other {
						t.Errorf("%#x and %#x of %#x and %#x, wide %v: both %v", pair[0], pair[1], a, b, wide, one)
					}
				}
			}
		}
	}
}

// A quotient times b, and the rest, are a: asked of the package's own product and sum, with a sign and without.
func TestP1_5QuotientAndRest(t *testing.T) {
	all := words()
	for _, off := range []int16{0, 1} {
		for _, wide := range []bool{true, false} {
			for _, a := range all {
				for _, b := range all {
					part := plain(a, widthIf(wide)).Uint64()
					quotient, _ := Alu(api.AluDiv, off, wide, a, b)
					rest, _ := Alu(api.AluMod, off, wide, a, b)
					product, _ := Alu(api.AluMul, 0, wide, quotient, b)
					if sum, _ := Alu(api.AluAdd, 0, wide, product, rest); plain(b, widthIf(wide)).Sign() != 0 && sum != part {
						t.Errorf("off %d, wide %v: %#x by %#x: %#x and %#x", off, wide, a, b, quotient, rest)
					}
				}
			}
		}
	}
}

func TestP1_5NotWideIsBelow(t *testing.T) {
	all := words()
	for op := 0; op < 256; op += 16 {
		for _, off := range []int16{0, 1, 8, 16, 32} {
			for _, a := range all {
				for _, b := range all {
					if n, _ := Alu(uint8(op), off, false, a, b); n >= 1<<32 {
						t.Errorf("Alu(%#x, %d, false, %#x, %#x) = %#x", op, off, a, b, n)
					}
				}
			}
		}
	}
}

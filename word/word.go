// Package word is layer 1, arithmetic of words: see shared/doc/01-word.md.
package word

import (
	"math/bits"

	"hatchway/api"
)

// natural and integer are both widths, without and with a sign: a word's own and its low part's.
type natural interface{ uint32 | uint64 }

type integer interface{ int32 | int64 }

// variant is an operation of arithmetic and the offset that says how it is meant.
type variant struct {
	op  uint8
	off int16
}

// table holds what is told of two numbers, by what is asked of them.
type table[K comparable, N natural, R any] map[K]func(a, b N) R

// tell answers what stands at k, and whether anything does.
func (t table[K, N, R]) tell(k K, a, b N) (result R, ok bool) {
	f, ok := t[k]
	if !ok {
		return result, false
	}
	return f(a, b), true
}

// Alu does an operation of arithmetic on words or, not wide, on their low parts; false, if there is none of that op and off.
func Alu(op uint8, off int16, wide bool, a, b uint64) (uint64, bool) {
	if wide {
		return compute[uint64, int64](variant{op, off}, a, b)
	}
	return compute[uint32, int32](variant{op, off}, uint32(a), uint32(b))
}

// Swap tells the lowest bits of n, in order 1 and 2 byte by byte the other way round; false, if the order or the bits are none.
func Swap(order int, bits int, n uint64) (uint64, bool) {
	if order < 0 || order > 2 || bits != 16 && bits != 32 && bits != 64 {
		return 0, false
	}
	if order == 0 {
		return lowest(bits, n), true
	}
	return reversed(bits, n), true
}

// Test tells whether a comparison holds of words or, not wide, of their low parts; ok is false, if op is no comparison.
func Test(op uint8, wide bool, a, b uint64) (is, ok bool) {
	if wide {
		return compare[uint64, int64](op, a, b)
	}
	return compare[uint32, int32](op, uint32(a), uint32(b))
}

// Extend tells the lowest bytes of n, widened with a sign, if signed; false, if there are none of so many.
func Extend(n uint64, bytes int, signed bool) (uint64, bool) {
	if bytes != 1 && bytes != 2 && bytes != 4 && bytes != 8 {
		return 0, false
	}
	if signed {
		return widened(8*bytes, n), true
	}
	return lowest(8*bytes, n), true
}

func compute[N natural, Z integer](v variant, a, b N) (uint64, bool) {
	n, ok := operations[N, Z]().tell(v, a, b)
	return uint64(n), ok
}

func compare[N natural, Z integer](op uint8, a, b N) (is, ok bool) {
	return comparisons[N, Z]().tell(op, a, b)
}

// operations makes the table of arithmetic of one width. It is made anew for each call: package level may hold no functions.
func operations[N natural, Z integer]() table[variant, N, N] {
	width := widthOf[N]()
	t := table[variant, N, N]{
		{api.AluAdd, 0}:  func(a, b N) N { return a + b },
		{api.AluSub, 0}:  func(a, b N) N { return a - b },
		{api.AluMul, 0}:  func(a, b N) N { return a * b },
		{api.AluDiv, 0}:  quotient[N],
		{api.AluDiv, 1}:  func(a, b N) N { return N(quotient(Z(a), Z(b))) },
		{api.AluMod, 0}:  rest[N],
		{api.AluMod, 1}:  func(a, b N) N { return N(rest(Z(a), Z(b))) },
		{api.AluOr, 0}:   func(a, b N) N { return a | b },
		{api.AluAnd, 0}:  func(a, b N) N { return a & b },
		{api.AluXor, 0}:  func(a, b N) N { return a ^ b },
		{api.AluLsh, 0}:  func(a, b N) N { return a << (b % width) },
		{api.AluRsh, 0}:  func(a, b N) N { return a >> (b % width) },
		{api.AluArsh, 0}: func(a, b N) N { return N(Z(a) >> (b % width)) },
		{api.AluNeg, 0}:  func(a, b N) N { return -a },
		{api.AluMov, 0}:  func(a, b N) N { return b },
		{api.AluMov, 8}:  func(a, b N) N { return N(int8(b)) },
		{api.AluMov, 16}: func(a, b N) N { return N(int16(b)) },
	}
	if width == 64 { // a low part has no more than 32 bits: none of it is left to widen into
		t[variant{api.AluMov, 32}] = func(a, b N) N { return N(int32(b)) }
	}
	return t
}

// comparisons makes the table of jumps' operations of one width.
func comparisons[N natural, Z integer]() table[uint8, N, bool] {
	return table[uint8, N, bool]{
		api.JmpEq:  func(a, b N) bool { return a == b },
		api.JmpNe:  func(a, b N) bool { return a != b },
		api.JmpGt:  func(a, b N) bool { return a > b },
		api.JmpGe:  func(a, b N) bool { return a >= b },
		api.JmpLt:  func(a, b N) bool { return a < b },
		api.JmpLe:  func(a, b N) bool { return a <= b },
		api.JmpSgt: func(a, b N) bool { return Z(a) > Z(b) },
		api.JmpSge: func(a, b N) bool { return Z(a) >= Z(b) },
		api.JmpSlt: func(a, b N) bool { return Z(a) < Z(b) },
		api.JmpSle: func(a, b N) bool { return Z(a) <= Z(b) },
		api.JmpSet: func(a, b N) bool { return a&b != 0 },
	}
}

// quotient is cut towards 0, and 0 where Go would panic; the least by -1 is the least, as Go wraps round.
func quotient[I natural | integer](a, b I) I {
	if b == 0 {
		return 0
	}
	return a / b
}

// rest has a's sign, and is a where Go would panic.
func rest[I natural | integer](a, b I) I {
	if b == 0 {
		return a
	}
	return a % b
}

func widthOf[N natural]() N {
	return N(bits.Len64(uint64(^N(0))))
}

func lowest(width int, n uint64) uint64 {
	return n << (64 - width) >> (64 - width)
}

func widened(width int, n uint64) uint64 {
	return uint64(int64(n) << (64 - width) >> (64 - width))
}

// reversed turns all eight bytes: the lowest ones lie on top then.
func reversed(width int, n uint64) uint64 {
	return bits.ReverseBytes64(n) >> (64 - width)
}

package asm

import (
	"math"
	"strconv"
	"strings"
)

// part is what a word behind a name says of its line's slots: a number from lo to hi, with a sign ahead, if it is a register's.
type part struct {
	ahead  string
	lo, hi int64
	get    func(slots pair) int64
	set    func(slots *pair, n int64)
}

// partOf tells the part that a capital of the document stands for.
func partOf(capital rune) part {
	switch capital {
	case 'C':
		return part{"", 0, math.MaxUint8,
			func(slots pair) int64 { return int64(slots[0].Op) },
			func(slots *pair, n int64) { slots[0].Op = uint8(n) }}
	case 'D':
		return part{"r", 0, maxReg,
			func(slots pair) int64 { return int64(slots[0].Dst) },
			func(slots *pair, n int64) { slots[0].Dst = uint8(n) }}
	case 'S':
		return part{"r", 0, maxReg,
			func(slots pair) int64 { return int64(slots[0].Src) },
			func(slots *pair, n int64) { slots[0].Src = uint8(n) }}
	case 'O':
		return part{"", math.MinInt16, math.MaxInt16,
			func(slots pair) int64 { return int64(slots[0].Off) },
			func(slots *pair, n int64) { slots[0].Off = int16(n) }}
	case 'I':
		return part{"", math.MinInt32, math.MaxInt32,
			func(slots pair) int64 { return int64(slots[0].Imm) },
			func(slots *pair, n int64) { slots[0].Imm = int32(n) }}
	default: // N, which lies in two slots
		return part{"", math.MinInt64, math.MaxInt64,
			func(slots pair) int64 { return int64(slots[1].Imm)<<32 | int64(uint32(slots[0].Imm)) },
			func(slots *pair, n int64) { slots[0].Imm, slots[1].Imm = int32(n), int32(n>>32) }}
	}
}

// read tells the number that a word says; false, if it says none of this part.
func (p part) read(word string) (int64, bool) {
	n, err := strconv.ParseInt(strings.TrimPrefix(word, p.ahead), 10, 64)
	// The library also takes a + or noughts ahead, and -0: a word is one alone as it is shown.
	return n, err == nil && p.lo <= n && n <= p.hi && word == p.show(n)
}

func (p part) show(n int64) string {
	return p.ahead + strconv.FormatInt(n, 10)
}

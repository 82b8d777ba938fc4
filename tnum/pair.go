package tnum

import (
	"math"
	"math/bits"

	"hatchway/api"
)

// pair is what is known of the two words that an operation is given; both are right.
type pair struct{ a, b api.Tnum }

// operations tells what is made of a pair, by operations of arithmetic. The map is made anew for each call: package level may hold no functions.
func operations(p pair) map[uint8]func() api.Tnum {
	return map[uint8]func() api.Tnum{
		api.AluAdd: p.sum,
		api.AluSub: p.difference,
		api.AluMul: p.product,
		api.AluAnd: p.and,
		api.AluOr:  p.or,
		api.AluXor: p.xor,
	}
}

func (p pair) sum() api.Tnum {
	return p.carried(least(p.a)+least(p.b), greatest(p.a)+greatest(p.b))
}

func (p pair) difference() api.Tnum {
	return p.carried(least(p.a)-greatest(p.b), greatest(p.a)-least(p.b))
}

// carried tells a sum, or a difference, by its ends. What is carried into a bit grows with the bits below it, so it is known just where it is the same at both ends.
func (p pair) carried(lo, hi uint64) api.Tnum {
	return of(lo, (lo^hi)|p.unknown())
}

// product tells no more low bits than are known of both: those hang on no others.
func (p pair) product() api.Tnum {
	known := bits.TrailingZeros64(p.unknown())
	return of(p.a.Value*p.b.Value, math.MaxUint64<<known)
}

func (p pair) and() api.Tnum {
	lo, hi := least(p.a)&least(p.b), greatest(p.a)&greatest(p.b)
	return of(lo, lo^hi)
}

func (p pair) or() api.Tnum {
	lo, hi := least(p.a)|least(p.b), greatest(p.a)|greatest(p.b)
	return of(lo, lo^hi)
}

func (p pair) xor() api.Tnum {
	return of(p.a.Value^p.b.Value, p.unknown())
}

// unknown are the bits that are not known of one, or of both.
func (p pair) unknown() uint64 {
	return p.a.Mask | p.b.Mask
}

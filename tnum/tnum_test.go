package tnum_test

import (
	"math"
	"slices"
	"testing"

	"hatchway/api"
	"hatchway/tnum"
)

// The whole of what callers lean on.
var (
	_ func(uint64) api.Tnum                               = tnum.Const
	_ func() api.Tnum                                     = tnum.Unknown
	_ func(api.Tnum) bool                                 = tnum.Right
	_ func(api.Tnum, uint64) bool                         = tnum.Has
	_ func(a, b api.Tnum) bool                            = tnum.Leq
	_ func(a, b api.Tnum) (api.Tnum, bool)                = tnum.Meet
	_ func(...api.Tnum) api.Tnum                          = tnum.Join
	_ func(lo, hi uint64) api.Tnum                        = tnum.Range
	_ func(op uint8, a, b api.Tnum) (api.Tnum, bool)      = tnum.Do
	_ func(op uint8, a api.Tnum, by int) (api.Tnum, bool) = tnum.Shift
	_ func(api.Tnum, int) (api.Tnum, bool)                = tnum.Low
)

// Pairs of tnums of few bits are all those of one row.
func pairsOf(row []api.Tnum, do func(a, b api.Tnum)) {
	for _, a := range row {
		for _, b := range row {
			do(a, b)
		}
	}
}

func TestP17_1Const(t *testing.T) {
	for _, n := range words() {
		if x := tnum.Const(n); x != of(n, 0) {
			t.Fatalf("Const(%x) = %x", n, x)
		}
		for _, other := range words() {
			if tnum.Has(tnum.Const(n), other) != (n == other) {
				t.Fatalf("Const(%x) and %x", n, other)
			}
		}
	}
}

func TestP17_1Unknown(t *testing.T) {
	if x := tnum.Unknown(); x != of(0, all) {
		t.Fatalf("%x", x)
	}
	for _, n := range words() {
		if !tnum.Has(tnum.Unknown(), n) {
			t.Fatalf("Unknown has not %x", n)
		}
	}
}

func TestP17_1Right(t *testing.T) {
	for _, x := range edges() {
		checkRight(t, x)
		if !tnum.Right(x) {
			t.Fatalf("%x is not right", x)
		}
	}
	for _, x := range wrongs() {
		checkRight(t, x)
		if tnum.Right(x) {
			t.Fatalf("%x is right", x)
		}
	}
	for _, value := range words() {
		for _, mask := range words() {
			checkRight(t, of(value, mask))
		}
	}
}

func TestP17_1Has(t *testing.T) {
	for _, c := range []struct {
		x  api.Tnum
		n  uint64
		is bool
	}{
		{of(4, 3), 3, false}, {of(4, 3), 4, true}, {of(4, 3), 5, true}, {of(4, 3), 6, true}, {of(4, 3), 7, true}, {of(4, 3), 8, false}, {of(4, 3), 12, false},
		{of(0, 0), 0, true}, {of(0, 0), 1, false}, {of(0, 0), top, false}, {of(all, 0), all, true}, {of(all, 0), all - 1, false},
		{of(0, top), 0, true}, {of(0, top), top, true}, {of(0, top), 1, false}, {of(1, top), top + 1, true}, {of(top, 1), 1, false},
		{of(1, 1), 0, false}, {of(1, 1), 1, false}, {of(all, all), 7, false}, {of(top, top), top, false}, {of(top, top), 0, false},
	} {
		checkHas(t, c.x, c.n)
		if tnum.Has(c.x, c.n) != c.is {
			t.Fatalf("Has(%x, %x) = %v", c.x, c.n, !c.is)
		}
	}
}

// Each tnum of few bits has just the words that it has, of all those that its row has, and of those that are one bit off.
func TestP17_1HasFewBits(t *testing.T) {
	for _, row := range fewBits() {
		some := row[0].Value
		for _, x := range row {
			var has []uint64
			for _, y := range row {
				for _, n := range wordsOf(y) {
					checkHas(t, x, n)
					if tnum.Has(x, n) && !slices.Contains(has, n) {
						has = append(has, n)
					}
				}
			}
			want := wordsOf(x)
			slices.Sort(has)
			slices.Sort(want)
			if !slices.Equal(has, want) {
				t.Fatalf("%x has %x", x, has)
			}
			for i := range 64 {
				checkHas(t, x, some^1<<i)
				checkHas(t, x, x.Value^1<<i)
			}
		}
	}
}

func TestP17_1HasEdges(t *testing.T) {
	for _, x := range append(edges(), wrongs()...) {
		for _, n := range words() {
			checkHas(t, x, n)
		}
		checkHas(t, x, x.Value)
		checkHas(t, x, x.Mask)
		checkHas(t, x, x.Value|x.Mask)
		checkHas(t, x, ^x.Value)
	}
}

func TestP17_1Leq(t *testing.T) {
	for _, c := range []struct {
		a, b api.Tnum
		is   bool
	}{
		{of(5, 2), of(1, 6), true}, {of(1, 6), of(5, 2), false}, {of(5, 2), of(5, 2), true}, {of(5, 2), of(4, 2), false}, {of(5, 0), of(4, 0), false},
		{of(0, all), of(0, all), true}, {of(0, all>>1), of(0, all), true}, {of(0, all), of(0, all>>1), false}, {of(0, all), of(0, all-1), false},
		{of(0, 3), of(0, 5), false}, {of(0, 1), of(0, 5), true}, {of(top, 0), of(0, top), true}, {of(0, top), of(top, 0), false}, {of(0, top), of(0, 0), false},
		{of(1, 1), of(0, all), false}, {of(1, 0), of(1, 1), false}, {of(1, 1), of(1, 1), false}, {of(all, all), of(0, all), false}, {of(0, 0), of(all, all), false},
	} {
		checkLeq(t, c.a, c.b)
		if tnum.Leq(c.a, c.b) != c.is {
			t.Fatalf("Leq(%x, %x) = %v", c.a, c.b, !c.is)
		}
	}
}

// A tnum is below another one, if that has all words that it has.
func TestP17_1LeqFewBits(t *testing.T) {
	for _, row := range fewBits() {
		pairsOf(row, func(a, b api.Tnum) {
			below := true
			for _, n := range wordsOf(a) {
				below = below && tnum.Has(b, n)
			}
			checkLeq(t, a, b)
			if tnum.Leq(a, b) != below {
				t.Fatalf("Leq(%x, %x) = %v", a, b, !below)
			}
		})
	}
}

func TestP17_1LeqEdges(t *testing.T) {
	row := append(edges(), wrongs()...)
	pairsOf(row, func(a, b api.Tnum) { checkLeq(t, a, b) })
}

func TestP17_2Meet(t *testing.T) {
	for _, c := range []struct {
		a, b, want api.Tnum
		ok         bool
	}{
		{of(4, 3), of(1, 14), of(5, 2), true}, {of(4, 3), of(8, 3), of(0, 0), false}, {of(0, all), of(0, all), of(0, all), true},
		{of(7, 0), of(0, all), of(7, 0), true}, {of(0, all), of(7, 0), of(7, 0), true}, {of(7, 0), of(7, 0), of(7, 0), true}, {of(7, 0), of(6, 0), of(0, 0), false},
		{of(0, top), of(top, 1), of(top, 0), true}, {of(0, top), of(1, top), of(0, 0), false}, {of(0, 5), of(0, 6), of(0, 4), true},
		{of(0, 0), of(top, 0), of(0, 0), false}, {of(0, 0), of(0, 0), of(0, 0), true}, {of(top, 0), of(0, all>>1), of(0, 0), false},
		{of(1, 1), of(0, all), of(0, 0), false}, {of(0, all), of(1, 1), of(0, 0), false}, {of(1, 1), of(1, 1), of(0, 0), false}, {of(1, 1), of(1, 0), of(0, 0), false}, {of(1, 0), of(1, 1), of(0, 0), false},
	} {
		checkMeet(t, c.a, c.b)
		if x, ok := tnum.Meet(c.a, c.b); x != c.want || ok != c.ok {
			t.Fatalf("Meet(%x, %x) = %x, %v", c.a, c.b, x, ok)
		}
	}
}

// Meet has just what both have, word by word.
func TestP17_2MeetFewBits(t *testing.T) {
	for _, row := range fewBits() {
		pairsOf(row, func(a, b api.Tnum) {
			var both []uint64
			for _, n := range wordsOf(a) {
				if wantHas(b, n) {
					both = append(both, n)
				}
			}
			checkMeet(t, a, b)
			x, ok := tnum.Meet(a, b)
			if ok != (len(both) > 0) {
				t.Fatalf("Meet(%x, %x) = %x, %v", a, b, x, ok)
			}
			if ok && (len(wordsOf(x)) != len(both) || x != leastOf(both...)) {
				t.Fatalf("Meet(%x, %x) = %x, want all of %x", a, b, x, both)
			}
		})
	}
}

func TestP17_2MeetEdges(t *testing.T) {
	row := append(edges(), wrongs()...)
	pairsOf(row, func(a, b api.Tnum) { checkMeet(t, a, b) })
}

func TestP17_2Join(t *testing.T) {
	wrong := of(1, 1)
	for _, c := range []struct {
		l    []api.Tnum
		want api.Tnum
	}{
		{[]api.Tnum{of(5, 0), of(7, 0)}, of(5, 2)},
		{nil, of(0, all)},
		{[]api.Tnum{}, of(0, all)},
		{[]api.Tnum{of(6, 1)}, of(6, 1)},
		{[]api.Tnum{of(0, 0)}, of(0, 0)},
		{[]api.Tnum{of(0, 0), of(0, 0)}, of(0, 0)},
		{[]api.Tnum{of(3, 0), of(3, 0), of(3, 0)}, of(3, 0)},
		{[]api.Tnum{of(1, 0), of(2, 0), of(4, 0)}, of(0, 7)},
		{[]api.Tnum{of(0, 0), of(all, 0)}, of(0, all)},
		{[]api.Tnum{of(0, 0), of(top, 0)}, of(0, top)},
		{[]api.Tnum{of(4, 1), of(4, 2)}, of(4, 3)},
		{[]api.Tnum{of(5, 0), of(4, 1)}, of(4, 1)},
		{[]api.Tnum{of(4, 1), of(5, 0)}, of(4, 1)},
		{[]api.Tnum{of(0, all), of(5, 0)}, of(0, all)},
		{[]api.Tnum{wrong}, of(0, all)},
		{[]api.Tnum{wrong, of(all, all), of(top, top)}, of(0, all)},
		{[]api.Tnum{wrong, of(3, 0)}, of(3, 0)},
		{[]api.Tnum{of(3, 0), wrong}, of(3, 0)},
		{[]api.Tnum{of(3, 0), of(8, 8), of(1, 0), wrong}, of(1, 2)},
		{[]api.Tnum{wrong, of(0, 0), of(all, all)}, of(0, 0)},
	} {
		checkJoin(t, c.l...)
		if x := tnum.Join(c.l...); x != c.want {
			t.Fatalf("Join(%x) = %x", c.l, x)
		}
	}
	if x := tnum.Join(); x != of(0, all) {
		t.Fatalf("Join() = %x", x)
	}
}

// Join of two, and of three, is the least that has all their words: each of their row that has them all is above it.
func TestP17_2JoinFewBits(t *testing.T) {
	for _, row := range fewBits() {
		pairsOf(row, func(a, b api.Tnum) {
			checkJoin(t, a, b)
			x := tnum.Join(a, b)
			if want := leastOf(append(wordsOf(a), wordsOf(b)...)...); x != want {
				t.Fatalf("Join(%x, %x) = %x, want %x", a, b, x, want)
			}
			for _, c := range row {
				if above := wantLeq(a, c) && wantLeq(b, c); above != wantLeq(x, c) {
					t.Fatalf("Join(%x, %x) = %x and %x", a, b, x, c)
				}
			}
		})
	}
	row := tnumsAt(0x70, 0, 63)
	pairsOf(row, func(a, b api.Tnum) {
		for _, c := range row {
			checkJoin(t, a, b, c)
			checkJoin(t, a, of(2, 2), b, of(all, all), c)
			checkJoin(t, of(top, top), a, b, c, of(1, all))
		}
	})
}

// Of many: in whatever order they stand, with wrong ones and without.
func TestP17_2JoinMany(t *testing.T) {
	d := newDrawing(1)
	for range 3000 {
		l := make([]api.Tnum, d.Intn(9))
		alike := d.tnum()
		for i := range l {
			l[i] = d.either()
			if d.Intn(2) == 0 {
				l[i] = of(alike.Value^1<<d.Intn(64)&^alike.Mask, alike.Mask)
			}
		}
		checkJoin(t, l...)
		x := tnum.Join(l...)
		d.Shuffle(len(l), func(i, j int) { l[i], l[j] = l[j], l[i] })
		if y := tnum.Join(l...); y != x {
			t.Fatalf("Join(%x) = %x, in another order %x", l, y, x)
		}
	}
	long := make([]api.Tnum, 100000)
	for i := range long {
		long[i] = of(uint64(i)<<7, 0)
		if i%3 == 1 {
			long[i] = of(top, all)
		}
	}
	checkJoin(t, long...)
	checkJoin(t, long[:1<<12]...)
	checkJoin(t, slices.Repeat([]api.Tnum{of(1, 1)}, 5000)...)
}

func TestP17_2Range(t *testing.T) {
	for _, c := range []struct {
		lo, hi uint64
		want   api.Tnum
	}{
		{4, 7, of(4, 3)}, {7, 8, of(0, 15)}, {9, 9, of(9, 0)}, {2, 1, of(0, all)}, {0, 0, of(0, 0)}, {0, all, of(0, all)}, {all, all, of(all, 0)}, {all, 0, of(0, all)},
		{top - 1, top, of(0, all)}, {top, top, of(top, 0)}, {top, all, of(top, all>>1)}, {0, top - 1, of(0, all>>1)}, {0, top, of(0, all)}, {top, top - 1, of(0, all)},
		{all - 1, all, of(all-1, 1)}, {1, all, of(0, all)}, {0, 1, of(0, 1)}, {5, 6, of(4, 3)}, {6, 5, of(0, all)}, {4, 5, of(4, 1)}, {8, 11, of(8, 3)},
		{math.MaxUint32, math.MaxUint32 + 1, of(0, 1<<33-1)}, {top + 4, top + 7, of(top+4, 3)},
	} {
		checkRange(t, c.lo, c.hi)
		if x := tnum.Range(c.lo, c.hi); x != c.want {
			t.Fatalf("Range(%x, %x) = %x", c.lo, c.hi, x)
		}
	}
}

// Small ranges, at the edges too, are held against all their words.
func TestP17_2RangeFewBits(t *testing.T) {
	for _, first := range []uint64{0, 1, 3, 100, 1<<32 - 40, 1<<31 - 8, top - 35, top, top + 5, all - 63} {
		for lo := first; lo < first+36; lo++ {
			row := []uint64{}
			for hi := lo; hi < first+36; hi++ {
				row = append(row, hi)
				checkRange(t, lo, hi)
				if x := tnum.Range(lo, hi); x != leastOf(row...) {
					t.Fatalf("Range(%x, %x) = %x", lo, hi, x)
				}
				if hi > lo {
					checkRange(t, hi, lo)
				}
			}
		}
	}
}

func TestP17_2RangeEdges(t *testing.T) {
	for _, lo := range words() {
		for _, hi := range words() {
			checkRange(t, lo, hi)
		}
	}
	d := newDrawing(2)
	for range 20000 {
		lo, n := d.word(), d.word()
		checkRange(t, lo, n)
		checkRange(t, lo, lo+n>>d.Intn(64))
	}
}

func TestP17_3Do(t *testing.T) {
	for _, c := range []struct {
		op         uint8
		a, b, want api.Tnum
	}{
		{api.AluAdd, of(0, 1), of(1, 0), of(0, 3)}, {api.AluAdd, of(4, 0), of(3, 0), of(7, 0)}, {api.AluAdd, of(8, 3), of(4, 0), of(12, 3)}, {api.AluAdd, of(0, 2), of(0, 2), of(0, 6)},
		{api.AluAdd, of(0, all), of(0, 0), of(0, all)}, {api.AluAdd, of(0, top), of(top, 0), of(0, top)}, {api.AluAdd, of(0, all-1), of(1, 0), of(1, all-1)},
		{api.AluAdd, of(all, 0), of(1, 0), of(0, 0)}, {api.AluAdd, of(all, 0), of(0, 1), of(0, all)}, {api.AluAdd, of(all-1, 0), of(0, 1), of(all-1, 1)}, {api.AluAdd, of(0x55, 2), of(1, 0), of(0x50, 14)},
		{api.AluSub, of(4, 1), of(1, 0), of(0, 7)}, {api.AluSub, of(8, 0), of(0, 1), of(0, 15)}, {api.AluSub, of(0, 0), of(1, 0), of(all, 0)}, {api.AluSub, of(0, 0), of(0, 1), of(0, all)},
		{api.AluSub, of(0, 1), of(1, 0), of(0, all)}, {api.AluSub, of(0, all), of(0, all), of(0, all)}, {api.AluSub, of(0, top), of(top, 0), of(0, top)}, {api.AluSub, of(top, 0), of(0, 1), of(0, all)}, {api.AluSub, of(7, 0), of(0, 7), of(0, 7)},
		{api.AluAnd, of(0, all), of(12, 0), of(0, 12)}, {api.AluAnd, of(0, all), of(0, 0), of(0, 0)}, {api.AluAnd, of(5, 2), of(1, 6), of(1, 6)}, {api.AluAnd, of(top, 1), of(top, 1), of(top, 1)}, {api.AluAnd, of(4, 0), of(6, 0), of(4, 0)},
		{api.AluOr, of(1, 2), of(2, 0), of(3, 0)}, {api.AluOr, of(0, all), of(all, 0), of(all, 0)}, {api.AluOr, of(0, all), of(5, 0), of(5, all-5)}, {api.AluOr, of(0, 1), of(0, top), of(0, top+1)},
		{api.AluXor, of(1, 2), of(3, 0), of(0, 2)}, {api.AluXor, of(all, 0), of(all, 0), of(0, 0)}, {api.AluXor, of(0, 1), of(0, 1), of(0, 1)}, {api.AluXor, of(top, 4), of(3, 8), of(top+3, 12)},
		{api.AluMul, of(3, 0), of(5, 0), of(15, 0)}, {api.AluMul, of(0, from(2)), of(4, 0), of(0, from(2))}, {api.AluMul, of(1, from(2)), of(3, from(3)), of(3, from(2))}, {api.AluMul, of(all, 0), of(all, 0), of(1, 0)},
		{api.AluMul, of(0, all), of(0, 0), of(0, all)}, {api.AluMul, of(0, 0), of(0, all), of(0, all)}, {api.AluMul, of(0, 0), of(0, 0), of(0, 0)}, {api.AluMul, of(0, top), of(0, 0), of(0, top)}, {api.AluMul, of(0, 0), of(0, 8), of(0, from(3))},
		{api.AluMul, of(7, 8), of(7, 0), of(1, from(3))}, {api.AluMul, of(7, 0), of(7, 32), of(17, from(5))}, {api.AluMul, of(0, 1), of(0, 2), of(0, all)}, {api.AluMul, of(0, 2), of(6, 0), of(0, from(1))}, {api.AluMul, of(5, top), of(5, 0), of(25, top)},
	} {
		checkDo(t, c.op, c.a, c.b)
		if x, ok := tnum.Do(c.op, c.a, c.b); x != c.want || !ok {
			t.Fatalf("Do(%#x, %x, %x) = %x, %v", c.op, c.a, c.b, x, ok)
		}
	}
}

// Of two tnums of few bits Do tells the least that has all that word.Alu makes of their words.
func TestP17_3DoFewBits(t *testing.T) {
	for _, row := range fewBits() {
		pairsOf(row, func(a, b api.Tnum) {
			for _, op := range ops() {
				checkDo(t, op, a, b)
			}
			for _, op := range carriers() {
				checkDoWords(t, op, a, b)
			}
		})
	}
	rows := fewBits()
	for i, row := range rows {
		for j, x := range row {
			for k, y := range rows[(i+j)%len(rows)] {
				op := carriers()[(i+j+k)%len(carriers())]
				checkDoWords(t, op, x, y)
				checkDoWords(t, op, y, x)
			}
		}
	}
}

// checkDoWords holds Do against all words of both.
func checkDoWords(t *testing.T, op uint8, a, b api.Tnum) {
	t.Helper()
	var made []uint64
	for _, x := range wordsOf(a) {
		for _, y := range wordsOf(b) {
			made = append(made, wordAlu(op, x, y))
		}
	}
	if got, ok := tnum.Do(op, a, b); got != leastOf(made...) || !ok {
		t.Fatalf("Do(%#x, %x, %x) = %x, %v, want all of %x", op, a, b, got, ok, made)
	}
}

// Each other tnum that has all that is made is above what Do tells: asked of all tnums of three bits at the top, out of which nothing is carried.
func TestP17_3DoIsLeast(t *testing.T) {
	row := tnumsAt(0, 61, 62, 63)
	pairsOf(row, func(a, b api.Tnum) {
		for _, op := range carriers() {
			x, _ := tnum.Do(op, a, b)
			for _, other := range row {
				if has := hasAllMade(other, op, a, b); has != wantLeq(x, other) {
					t.Fatalf("Do(%#x, %x, %x) = %x: %x has all is %v", op, a, b, x, other, has)
				}
			}
		}
	})
}

func hasAllMade(has api.Tnum, op uint8, a, b api.Tnum) bool {
	for _, x := range wordsOf(a) {
		for _, y := range wordsOf(b) {
			if !wantHas(has, wordAlu(op, x, y)) {
				return false
			}
		}
	}
	return true
}

func TestP17_3DoEdges(t *testing.T) {
	pairsOf(edges(), func(a, b api.Tnum) {
		for _, op := range ops() {
			checkDo(t, op, a, b)
		}
	})
}

// What is carried out of one bit that is not known runs through all above it.
func TestP17_3CarriesRunThrough(t *testing.T) {
	for i := range 64 {
		b := uint64(1) << i
		above := from(i)
		for _, c := range []struct {
			op         uint8
			a, b, want api.Tnum
		}{
			{api.AluAdd, of(above, 0), of(0, b), of(0, above)},
			{api.AluAdd, of(0, b), of(above, 0), of(0, above)},
			{api.AluAdd, of(above&^b, b), of(b, 0), of(0, above)},
			{api.AluAdd, of(all, 0), of(0, b), of(b-1, above)},
			{api.AluSub, of(0, 0), of(0, b), of(0, above)},
			{api.AluSub, of(0, b), of(b, 0), of(0, above)},
			{api.AluSub, of(b-1, 0), of(0, b), of(b-1, above)},
		} {
			checkDo(t, c.op, c.a, c.b)
			if x, ok := tnum.Do(c.op, c.a, c.b); x != c.want || !ok {
				t.Fatalf("bit %d: Do(%#x, %x, %x) = %x, %v, want %x", i, c.op, c.a, c.b, x, ok, c.want)
			}
		}
	}
}

// As many low bits of a product are known as of both, and none else.
func TestP17_3Products(t *testing.T) {
	for i := range 65 {
		for j := range 65 {
			for _, n := range []uint64{0, 1, 3, all, 0x123456789abcdef0, 0xfedcba9876543211} {
				a, b := of(n&^from(i), from(i)), of(n&^from(j), from(j))
				checkDo(t, api.AluMul, a, b)
				if i < 64 && j < 64 { // of which one bit alone is not known
					checkDo(t, api.AluMul, of(n&^(1<<i), 1<<i), of(n&^(1<<j), 1<<j))
				}
				x, _ := tnum.Do(api.AluMul, a, b)
				if x.Mask != from(min(i, j)) {
					t.Fatalf("%d and %d low bits: %x", i, j, x)
				}
			}
		}
	}
}

func TestP17_3DoDrawn(t *testing.T) {
	d := newDrawing(3)
	for range 30000 {
		a, b := d.either(), d.either()
		for _, op := range ops() {
			checkDo(t, op, a, b)
		}
	}
}

// All bits of op count.
func TestP17_3DoNone(t *testing.T) {
	pairs := [][2]api.Tnum{{of(0, 0), of(0, 0)}, {of(5, 2), of(1, 6)}, {of(0, all), of(0, all)}, {of(top, 1), of(3, 0)}, {of(1, 1), of(1, 0)}, {of(1, 0), of(1, 1)}, {of(3, 2), of(5, 4)}}
	known := 0
	for op := range 256 {
		for _, p := range pairs {
			checkDo(t, uint8(op), p[0], p[1])
		}
		if _, ok := tnum.Do(uint8(op), of(5, 2), of(3, 0)); ok {
			known++
		}
	}
	if known != 6 {
		t.Fatalf("%d operations", known)
	}
	for _, op := range []uint8{api.AluDiv, api.AluMod, api.AluNeg, api.AluMov, api.AluEnd, api.AluLsh, api.AluRsh, api.AluArsh, api.AluAdd | api.ClassAlu64, api.AluAdd | api.SrcReg, api.AluAnd | api.ClassAlu} {
		if x, ok := tnum.Do(op, of(5, 2), of(3, 0)); x != (api.Tnum{}) || ok {
			t.Fatalf("Do(%#x) = %x, %v", op, x, ok)
		}
	}
}

func TestP17_3DoWrong(t *testing.T) {
	for _, wrong := range wrongs() {
		for _, op := range ops() {
			for _, right := range []api.Tnum{of(0, 0), of(7, 0), of(0, all), of(5, 2)} {
				for _, p := range [][2]api.Tnum{{wrong, right}, {right, wrong}, {wrong, wrong}} {
					checkDo(t, op, p[0], p[1])
					if x, ok := tnum.Do(op, p[0], p[1]); x != (api.Tnum{}) || ok {
						t.Fatalf("Do(%#x, %x, %x) = %x, %v", op, p[0], p[1], x, ok)
					}
				}
			}
		}
	}
}

func TestP17_4Shift(t *testing.T) {
	for _, c := range []struct {
		op   uint8
		a    api.Tnum
		by   int
		want api.Tnum
	}{
		{api.AluLsh, of(1, 2), 3, of(8, 16)}, {api.AluLsh, of(5, 2), 0, of(5, 2)}, {api.AluLsh, of(1, 2), 63, of(top, 0)}, {api.AluLsh, of(2, 1), 63, of(0, top)}, {api.AluLsh, of(0, all), 63, of(0, top)}, {api.AluLsh, of(0, all), 1, of(0, all-1)},
		{api.AluRsh, of(8, 16), 3, of(1, 2)}, {api.AluRsh, of(top, 1), 0, of(top, 1)}, {api.AluRsh, of(top, 1), 63, of(1, 0)}, {api.AluRsh, of(0, all), 63, of(0, 1)}, {api.AluRsh, of(0, top), 63, of(0, 1)}, {api.AluRsh, of(all, 0), 60, of(15, 0)},
		{api.AluArsh, of(0, top), 2, of(0, 7<<61)}, {api.AluArsh, of(top, 0), 2, of(7<<61, 0)}, {api.AluArsh, of(0, top), 63, of(0, all)}, {api.AluArsh, of(top, 1), 63, of(all, 0)}, {api.AluArsh, of(0, all>>1), 63, of(0, 0)}, {api.AluArsh, of(top, all>>1), 62, of(all-1, 1)},
		{api.AluArsh, of(0, top), 0, of(0, top)}, {api.AluArsh, of(1<<62, 1<<61), 60, of(4, 2)},
	} {
		checkShift(t, c.op, c.a, c.by)
		if x, ok := tnum.Shift(c.op, c.a, c.by); x != c.want || !ok {
			t.Fatalf("Shift(%#x, %x, %d) = %x, %v", c.op, c.a, c.by, x, ok)
		}
	}
}

// All tnums of few bits, by all that they may be shifted, are held against what word.Alu makes of their words.
func TestP17_4ShiftFewBits(t *testing.T) {
	for _, row := range fewBits() {
		for _, a := range row {
			for _, op := range shifts() {
				for by := range 64 {
					checkShift(t, op, a, by)
					var made []uint64
					for _, n := range wordsOf(a) {
						made = append(made, wordAlu(op, n, uint64(by)))
					}
					if x, ok := tnum.Shift(op, a, by); x != leastOf(made...) || !ok {
						t.Fatalf("Shift(%#x, %x, %d) = %x, %v, want all of %x", op, a, by, x, ok, made)
					}
				}
			}
		}
	}
}

func TestP17_4ShiftEdges(t *testing.T) {
	for _, a := range append(edges(), wrongs()...) {
		for _, op := range shifts() {
			for _, by := range numbers() {
				checkShift(t, op, a, by)
			}
		}
	}
	d := newDrawing(4)
	for range 20000 {
		checkShift(t, shifts()[d.Intn(3)], d.either(), d.Intn(66)-1)
	}
}

func TestP17_4ShiftNone(t *testing.T) {
	known := 0
	for op := range 256 {
		for _, by := range []int{-1, 0, 1, 32, 63, 64} {
			for _, a := range []api.Tnum{of(0, 0), of(5, 2), of(0, all), of(top, 1), of(1, 1), of(all, all)} {
				checkShift(t, uint8(op), a, by)
			}
		}
		if _, ok := tnum.Shift(uint8(op), of(5, 2), 1); ok {
			known++
		}
	}
	if known != 3 {
		t.Fatalf("%d operations", known)
	}
	for _, by := range []int{math.MinInt, -64, -63, -1, 64, 65, 128, 1 << 32, math.MaxInt} {
		for _, op := range shifts() {
			if x, ok := tnum.Shift(op, of(5, 2), by); x != (api.Tnum{}) || ok {
				t.Fatalf("Shift(%#x, by %d) = %x, %v", op, by, x, ok)
			}
		}
	}
	for _, wrong := range wrongs() {
		for by := range 64 {
			if x, ok := tnum.Shift(shifts()[by%3], wrong, by); x != (api.Tnum{}) || ok {
				t.Fatalf("Shift(%x, by %d) = %x, %v", wrong, by, x, ok)
			}
		}
	}
}

func TestP17_4Low(t *testing.T) {
	for _, c := range []struct {
		x     api.Tnum
		bytes int
		want  api.Tnum
	}{
		{of(0x1ff, 0x600), 1, of(0xff, 0)}, {of(0x1ff, 0x600), 2, of(0x1ff, 0x600)}, {of(0, all), 1, of(0, 0xff)}, {of(0, all), 2, of(0, 0xffff)}, {of(0, all), 4, of(0, math.MaxUint32)}, {of(0, all), 8, of(0, all)},
		{of(all, 0), 1, of(0xff, 0)}, {of(all, 0), 2, of(0xffff, 0)}, {of(all, 0), 4, of(math.MaxUint32, 0)}, {of(all, 0), 8, of(all, 0)}, {of(top, 1<<31), 4, of(0, 1<<31)}, {of(top, 1<<32), 4, of(0, 0)}, {of(1<<15, 1<<16), 2, of(1<<15, 0)}, {of(top, 1), 8, of(top, 1)},
	} {
		checkLow(t, c.x, c.bytes)
		if x, ok := tnum.Low(c.x, c.bytes); x != c.want || !ok {
			t.Fatalf("Low(%x, %d) = %x, %v", c.x, c.bytes, x, ok)
		}
	}
}

func TestP17_4LowFewBits(t *testing.T) {
	rows := fewBits()
	for _, rest := range []uint64{0, all} {
		rows = append(rows, tnumsAt(rest, 6, 7, 8, 9), tnumsAt(rest, 15, 16, 31, 32))
	}
	for _, row := range rows {
		for _, x := range row {
			for _, bytes := range []int{1, 2, 4, 8} {
				checkLow(t, x, bytes)
				var cut []uint64
				for _, n := range wordsOf(x) {
					cut = append(cut, n%(1<<(4*bytes))|n>>(4*bytes)%(1<<(4*bytes))<<(4*bytes))
				}
				if got, ok := tnum.Low(x, bytes); got != leastOf(cut...) || !ok {
					t.Fatalf("Low(%x, %d) = %x, %v, want all of %x", x, bytes, got, ok, cut)
				}
			}
		}
	}
}

func TestP17_4LowNone(t *testing.T) {
	for _, x := range append(edges(), wrongs()...) {
		for _, bytes := range numbers() {
			checkLow(t, x, bytes)
		}
	}
	known := 0
	for _, bytes := range numbers() {
		if x, ok := tnum.Low(of(5, 2), bytes); ok {
			known++
		} else if x != (api.Tnum{}) {
			t.Fatalf("Low of %d bytes: %x", bytes, x)
		}
	}
	if known != 4 {
		t.Fatalf("%d sizes", known)
	}
	for _, wrong := range wrongs() {
		for _, bytes := range []int{1, 2, 4, 8} { // also where what is left would be right
			if x, ok := tnum.Low(wrong, bytes); x != (api.Tnum{}) || ok {
				t.Fatalf("Low(%x, %d) = %x, %v", wrong, bytes, x, ok)
			}
		}
	}
}

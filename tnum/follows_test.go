package tnum_test

import (
	"testing"

	"hatchway/api"
	"hatchway/tnum"
)

// lattices are rows in which Leq, Meet and Join are asked of all pairs, and triples.
func lattices() [][]api.Tnum {
	rows := [][]api.Tnum{tnumsAt(0, 0, 1, 2), tnumsAt(all, 0, 31, 63), tnumsAt(0x5555555555555555, 61, 62, 63)}
	d := newDrawing(5)
	var drawn []api.Tnum
	for range 10 {
		x := d.tnum()
		drawn = append(drawn, x, of(x.Value&^1, x.Mask|1), of(d.wordOf(x), 0))
	}
	return append(rows, drawn, append(edges()[:28:28], tnum.Unknown(), of(1, 1), of(all, all), of(top, top)))
}

// Of right tnums Leq is an order.
func TestP17_5LeqIsAnOrder(t *testing.T) {
	for _, row := range lattices() {
		for _, a := range row {
			if tnum.Leq(a, a) != tnum.Right(a) || tnum.Leq(a, tnum.Unknown()) != tnum.Right(a) {
				t.Fatalf("%x: below itself, and below all words", a)
			}
		}
		pairsOf(row, func(a, b api.Tnum) {
			if a != b && tnum.Leq(a, b) && tnum.Leq(b, a) {
				t.Fatalf("%x and %x are below each other", a, b)
			}
			for _, c := range row {
				if tnum.Leq(a, b) && tnum.Leq(b, c) && !tnum.Leq(a, c) {
					t.Fatalf("%x is below %x, that below %x", a, b, c)
				}
			}
		})
	}
}

// Below Meet is just what is below both.
func TestP17_5MeetBelongsToLeq(t *testing.T) {
	for _, row := range lattices() {
		pairsOf(row, func(a, b api.Tnum) {
			x, ok := tnum.Meet(a, b)
			if y, too := tnum.Meet(b, a); x != y || ok != too {
				t.Fatalf("Meet(%x, %x) = %x, %v, the other way %x, %v", a, b, x, ok, y, too)
			}
			if ok && !(tnum.Right(x) && tnum.Leq(x, a) && tnum.Leq(x, b)) {
				t.Fatalf("Meet(%x, %x) = %x", a, b, x)
			}
			if is := ok && x == a; is != tnum.Leq(a, b) {
				t.Fatalf("Meet(%x, %x) = %x, %v, and Leq is not so", a, b, x, ok)
			}
			for _, c := range row {
				below := tnum.Leq(c, a) && tnum.Leq(c, b)
				if is := ok && tnum.Leq(c, x); is != below {
					t.Fatalf("%x, below %x and %x is %v, and Meet is %x, %v", c, a, b, below, x, ok)
				}
			}
		})
	}
}

// Above Join is just what is above both.
func TestP17_5JoinBelongsToLeq(t *testing.T) {
	for _, row := range lattices() {
		pairsOf(row, func(a, b api.Tnum) {
			if !tnum.Right(a) || !tnum.Right(b) {
				return
			}
			x := tnum.Join(a, b)
			if y := tnum.Join(b, a); x != y {
				t.Fatalf("Join(%x, %x) = %x, the other way %x", a, b, x, y)
			}
			if !tnum.Right(x) || !tnum.Leq(a, x) || !tnum.Leq(b, x) {
				t.Fatalf("Join(%x, %x) = %x", a, b, x)
			}
			if is := x == b; is != tnum.Leq(a, b) {
				t.Fatalf("Join(%x, %x) = %x, and Leq is not so", a, b, x)
			}
			for _, c := range row {
				above := tnum.Leq(a, c) && tnum.Leq(b, c)
				if tnum.Leq(x, c) != above {
					t.Fatalf("%x, above %x and %x is %v, and Join is %x", c, a, b, above, x)
				}
				if y := tnum.Join(x, c); tnum.Right(c) && (y != tnum.Join(a, b, c) || y != tnum.Join(a, tnum.Join(b, c))) {
					t.Fatalf("Join of %x, %x and %x: %x", a, b, c, y)
				}
			}
		})
	}
}

// What Do tells has what the operation makes of whatever words both have, and is right.
func TestP17_5DoHasWhatIsMade(t *testing.T) {
	d := newDrawing(6)
	for range 20000 {
		a, b := d.tnum(), d.tnum()
		x, y := d.wordOf(a), d.wordOf(b)
		for _, op := range ops() {
			made, ok := tnum.Do(op, a, b)
			if !ok || !tnum.Right(made) || !tnum.Has(made, wordAlu(op, x, y)) {
				t.Fatalf("Do(%#x, %x, %x) = %x, %v, of the words %x and %x", op, a, b, made, ok, x, y)
			}
			if one, _ := tnum.Do(op, of(x, 0), of(y, 0)); one != tnum.Const(wordAlu(op, x, y)) {
				t.Fatalf("Do(%#x, %x, %x) = %x", op, x, y, one)
			}
		}
	}
	for _, row := range fewBits() {
		pairsOf(row, func(a, b api.Tnum) {
			made, ok := tnum.Do(api.AluMul, a, b)
			if !ok || !tnum.Right(made) || !hasAllMade(made, api.AluMul, a, b) {
				t.Fatalf("the product of %x and %x: %x, %v", a, b, made, ok)
			}
		})
	}
}

// What Shift, Low, Join and Range tell has what it must have, and is right.
func TestP17_5TheRestHasWhatIsMade(t *testing.T) {
	d := newDrawing(7)
	for range 20000 {
		a, b := d.tnum(), d.tnum()
		x, by := d.wordOf(a), d.Intn(64)
		for _, op := range shifts() {
			if made, ok := tnum.Shift(op, a, by); !ok || !tnum.Right(made) || !tnum.Has(made, wordAlu(op, x, uint64(by))) {
				t.Fatalf("Shift(%#x, %x, %d) = %x, %v, of the word %x", op, a, by, made, ok, x)
			}
		}
		for i, cut := range []uint64{uint64(uint8(x)), uint64(uint16(x)), uint64(uint32(x)), x} {
			if made, ok := tnum.Low(a, 1<<i); !ok || !tnum.Right(made) || !tnum.Has(made, cut) {
				t.Fatalf("Low(%x, %d) = %x, %v, of the word %x", a, 1<<i, made, ok, x)
			}
		}
		if made := tnum.Join(a, b); !tnum.Right(made) || !tnum.Has(made, x) || !tnum.Has(made, d.wordOf(b)) {
			t.Fatalf("Join(%x, %x) = %x", a, b, made)
		}
		lo, hi := min(x, b.Value), max(x, b.Value)
		if made := tnum.Range(lo, hi); !tnum.Right(made) || !tnum.Has(made, lo) || !tnum.Has(made, hi) || !tnum.Has(made, lo+(hi-lo)/2) {
			t.Fatalf("Range(%x, %x) = %x", lo, hi, made)
		}
	}
}

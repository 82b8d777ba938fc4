package lru_test

import (
	"bytes"
	"math/rand"
	"slices"
	"testing"

	"hatchway/api"
	"hatchway/lru"
)

func numbers(many int) []int {
	all := make([]int, many)
	for i := range all {
		all[i] = i
	}
	return all
}

// shuffle puts a row in an order that hangs on a number alone.
func shuffle(seed int, row []int) {
	rand.New(rand.NewSource(int64(seed))).Shuffle(len(row), func(i, j int) { row[i], row[j] = row[j], row[i] })
}

// record is the keys in the order in which they were looked up, updated, deleted with success: what P12.4 speaks of, with no word of places.
type record []touched

type touched struct {
	key     string
	deleted bool
}

// last tells the keys of so many that were looked up or updated last, the one that was so first ahead, each once; those that were deleted since count, but aren't told.
func (r record) last(many int) []string {
	var told []string
	seen := map[string]int{}
	gone := map[string]int{}
	for _, x := range slices.Backward(r) {
		if len(seen) == many {
			break
		}
		if seen[x.key] > 0 {
			continue
		}
		if x.deleted {
			gone[x.key]++
			continue
		}
		seen[x.key]++
		if gone[x.key] == 0 {
			told = append(told, x.key)
		}
	}
	slices.Reverse(told)
	return told
}

// within asks whether all of few are in many, in that order.
func within(few []string, many [][]byte) bool {
	for _, key := range many {
		if len(few) > 0 && string(key) == few[0] {
			few = few[1:]
		}
	}
	return len(few) == 0
}

// Of the keys that were looked up or updated with success those that were so last are there, and none else, as long as none is deleted.
func TestP12_4LastAreThere(t *testing.T) {
	draw := rand.New(rand.NewSource(4))
	for entries := 1; entries <= 12; entries++ {
		l, _ := lru.New(specOf(1, 1, entries))
		var r record
		for range 500 {
			key := []byte{byte('a' + draw.Intn(entries+4))}
			e := api.OK
			if draw.Intn(3) == 0 {
				_, e = l.Lookup(key)
			} else {
				e = l.Update(key, []byte{1}, uint64(draw.Intn(4)))
			}
			if e == api.OK {
				r = append(r, touched{key: string(key)})
			}
			if told, want := l.Keys(), r.last(entries); len(told) != len(want) || !within(want, told) {
				t.Fatalf("of %d: %q; want %q", entries, told, want)
			}
		}
	}
}

// The same where keys are deleted: those that were not deleted since are there.
func TestP12_4LastAreThereButDeleted(t *testing.T) {
	draw := rand.New(rand.NewSource(5))
	for entries := 1; entries <= 12; entries++ {
		for range 5 {
			l, _ := lru.New(specOf(1, 1, entries))
			var r record
			for range 300 {
				key := []byte{byte('a' + draw.Intn(entries+4))}
				e, deletes := api.OK, draw.Intn(6) == 0
				switch {
				case deletes:
					e = l.Delete(key)
				case draw.Intn(3) == 0:
					_, e = l.Lookup(key)
				default:
					e = l.Update(key, []byte{1}, uint64(draw.Intn(4)))
				}
				if e == api.OK {
					r = append(r, touched{key: string(key), deleted: deletes})
				}
				told := l.Keys()
				if want := r.last(entries); !within(want, told) || len(told) > entries {
					t.Fatalf("of %d: %q; want %q", entries, told, want)
				}
				if !deletes {
					continue
				}
				if _, e := l.Lookup(key); e != api.ErrNone {
					t.Fatalf("of %d: %q was deleted: %v", entries, key, e)
				}
			}
		}
	}
}

// An update is of the place that Lookup tells, which no other key has; each is followed by a look at all places.
func TestP12_4OthersStay(t *testing.T) {
	for _, sort := range [][3]int{{1, 1, 1}, {1, 1, 64}, {2, 3, 40}, {64, 7, 100}} {
		x := newBoth(t, sort[0], sort[1], sort[2])
		for turn, flag := range []uint64{0, 2} {
			for n := range sort[2] {
				key, value := keyOf(sort[0], n), slices.Repeat([]byte{byte(n) ^ byte(turn+1)<<6}, sort[1])
				x.update(key, value, flag)
				at, e := x.l.Lookup(key)
				b, f := x.l.Value(at)
				if at != n || e != api.OK || f != api.OK || !bytes.Equal(b, value) {
					t.Fatalf("Update(%v): Lookup %d, %v; Value %v, %v", key, at, e, b, f)
				}
				x.look()
			}
		}
		for place := range sort[2] {
			for off := range sort[1] {
				x.set(place, off, []byte{byte(3 * place)})
			}
			x.look()
		}
	}
}

// A key keeps its place until it goes, whatever becomes of the others, and no two keys have one.
func TestP12_4KeepsPlace(t *testing.T) {
	draw := rand.New(rand.NewSource(6))
	for entries := 1; entries <= 20; entries++ {
		l, _ := lru.New(specOf(1, 1, entries))
		had := map[string]int{}
		for range 400 {
			key := []byte{byte(draw.Intn(entries + 1 + entries/2))}
			switch draw.Intn(4) {
			case 0:
				l.Delete(key)
			case 1:
				l.Lookup(key)
			default:
				l.Update(key, []byte{1}, 0)
			}
			has, taken := map[string]int{}, map[int]int{}
			for _, key := range l.Keys() {
				at, e := l.Lookup(key)
				if e != api.OK || at < 0 || at >= entries {
					t.Fatalf("the key %v has %d, %v", key, at, e)
				}
				if was, there := had[string(key)]; there && was != at {
					t.Fatalf("the key %v has %d, had %d", key, at, was)
				}
				if taken[at]++; taken[at] > 1 {
					t.Fatalf("two keys have %d", at)
				}
				has[string(key)] = at
			}
			had = has
		}
	}
}

// What is handed in is not kept, and what was told stays as it was.
func TestP12_4ToldApart(t *testing.T) {
	l, _ := lru.New(specOf(2, 8, 2))
	key, given := []byte("k1"), []byte("abcdefgh")
	l.Update(key, given, 0)
	key[1] = '2'
	l.Update(key, given, 0)
	overwrite(key)
	overwrite(given)
	checkKeys(t, l, "k1 k2")
	told := l.Keys()
	one, _ := l.Value(0)
	two, _ := l.Value(0)
	three, _ := l.Value(1)
	for _, b := range [][]byte{one, two, three} {
		if string(b) != "abcdefgh" {
			t.Fatalf("%q", b)
		}
	}
	overwrite(one)
	if string(two) != "abcdefgh" || string(three) != "abcdefgh" {
		t.Fatalf("%q, %q", two, three)
	}
	part := []byte("123")
	l.Set(0, 2, part)
	l.Update([]byte("k2"), []byte("ABCDEFGH"), 2)
	overwrite(part)
	l.Update([]byte("k0"), []byte("ab123fgh"), 1)
	if string(two) != "abcdefgh" || string(three) != "abcdefgh" || string(told[0]) != "k1" || string(told[1]) != "k2" {
		t.Fatalf("%q, %q, %q", two, three, told)
	}
	checkValue(t, l, 0, "ab123fgh")
	checkValue(t, l, 1, "ABCDEFGH")
	again := l.Keys()
	overwrite(again[0])
	if string(again[1]) != "k0" || string(told[1]) != "k2" {
		t.Fatalf("%q, %q", again, told)
	}
	again[1] = nil
	overwrite(told[0])
	overwrite(told[1])
	checkKeys(t, l, "k2 k0")
	checkLookup(t, l, "k2", 1)
}

// Two lrus of one make are apart.
func TestP12_4LrusApart(t *testing.T) {
	x, y := newBoth(t, 1, 3, 4), newBoth(t, 1, 3, 4)
	x.update([]byte("a"), []byte("abc"), 0)
	y.set(2, 1, []byte("z"))
	x.look()
	y.look()
	y.update([]byte("b"), []byte("xyz"), 1)
	y.update([]byte("a"), []byte("uvw"), 1)
	z := newBoth(t, 1, 3, 4)
	x.set(3, 0, []byte("123"))
	y.lookup([]byte("b"))
	x.fill(0, 5)
	y.delete([]byte("a"))
	x.look()
	y.look()
	z.look()
}

// What looks at an lru, but for a look-up, and what may not be, changes nothing.
func TestP12_4NothingChanges(t *testing.T) {
	for _, many := range []int{3, 5} {
		x := newBoth(t, 2, 4, 5)
		x.fill(0, many)
		for _, key := range append(keys(2), []byte("zz"), []byte{4, 0}) {
			_, there := x.where(key)
			x.update(key, []byte("wxy"), 0)
			x.update(key, []byte("wxyz!"), 2)
			x.update(key, []byte("wxyz"), 3)
			if there {
				x.update(key, []byte("wxyz"), 1)
			} else {
				x.lookup(key)
				x.delete(key)
				x.update(key, []byte("wxyz"), 2)
			}
			x.look()
		}
		for place := range 5 {
			for _, off := range edges(4) {
				x.set(place, off, nil)
				x.set(place, off, []byte("wxyz!"))
				if off != 0 {
					x.set(place, off, []byte("wxyz"))
				}
				x.look()
			}
		}
	}
}

// Calls in any order, held against the chapter's words behind each.
func TestP12_4Drawn(t *testing.T) {
	draw := rand.New(rand.NewSource(12))
	drawn := func(size, signs int) []byte {
		b := make([]byte, size)
		for i := range b {
			b[i] = byte(draw.Intn(signs) * 255 / (signs - 1))
		}
		return b
	}
	for range 150 {
		size, value, entries := 1+draw.Intn(4), 1+draw.Intn(12), 1+draw.Intn(20)
		x := newBoth(t, size, value, entries)
		signs := 2 + draw.Intn(4)
		key := func() []byte {
			if draw.Intn(12) == 0 {
				return drawn(draw.Intn(7), signs)
			}
			return drawn(size, signs)
		}
		for range 300 {
			length := value
			if draw.Intn(8) == 0 {
				length = draw.Intn(value + 3)
			}
			switch draw.Intn(10) {
			case 0, 1, 2, 3:
				x.update(key(), drawn(length, 256), uint64(draw.Intn(4)))
			case 4:
				x.set(draw.Intn(entries+2)-1, draw.Intn(value+3)-1, drawn(draw.Intn(value+2), 256))
			case 5, 6, 7:
				x.lookup(key())
			default:
				x.delete(key())
			}
			x.look()
		}
		x.all()
	}
}

// The same of great lrus, which are looked at now and then.
func TestP12_4DrawnGreat(t *testing.T) {
	draw := rand.New(rand.NewSource(1024))
	for _, sort := range [][3]int{{1, 8, 200}, {2, 1, 1024}, {64, 4, 1000}} {
		x := newBoth(t, sort[0], sort[1], sort[2])
		for turn := range 12000 {
			key := keyOf(sort[0], draw.Intn(sort[2]*5/4))
			switch draw.Intn(8) {
			case 0:
				x.delete(key)
			case 1, 2:
				x.lookup(key)
			default:
				x.update(key, valueOf(sort[1], draw.Intn(1<<20)), uint64(draw.Intn(3)))
			}
			if turn%1500 == 0 {
				x.look()
			}
		}
		x.all()
	}
}

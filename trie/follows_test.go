package trie_test

import (
	"bytes"
	"math/rand"
	"runtime"
	"slices"
	"strings"
	"testing"

	"hatchway/api"
	"hatchway/trie"
)

// shuffle puts a row in an order that hangs on a number alone.
func shuffle(seed int, row []int) {
	rand.New(rand.NewSource(int64(seed))).Shuffle(len(row), func(i, j int) { row[i], row[j] = row[j], row[i] })
}

// drawn is so many bytes.
func drawn(draw *rand.Rand, size int) []byte {
	b := make([]byte, size)
	for i := range b {
		b[i] = byte(draw.Intn(256))
	}
	return b
}

// drawnText is so many bits.
func drawnText(draw *rand.Rand, many int) string {
	var text strings.Builder
	for range many {
		text.WriteByte("01"[draw.Intn(2)])
	}
	return text.String()
}

// What Lookup tells is the place of the longest key that Keys tells among the beginnings of the one that was asked for.
func TestP13_4LongestBeginning(t *testing.T) {
	draw := rand.New(rand.NewSource(13))
	for size := 5; size <= 8; size++ {
		room := 8 * (size - 4)
		for entries := 1; entries <= 24; entries++ {
			x, _ := trie.New(specOf(size, 1, entries))
			for range 150 {
				key := noisy(size, drawnText(draw, draw.Intn(7)), byte(draw.Intn(256)))
				if draw.Intn(3) == 0 {
					x.Delete(key)
				} else {
					x.Update(key, []byte{1}, 0)
				}
				asked := drawnText(draw, draw.Intn(min(room, 9)+1))
				longest := ""
				begins := false
				for _, key := range x.Keys() {
					if text, _ := textOf(size, key); strings.HasPrefix(asked, text) {
						longest, begins = text, true
					}
				}
				n, e := x.Lookup(noisy(size, asked, byte(draw.Intn(256))))
				if !begins {
					if n != 0 || e != api.ErrNone {
						t.Fatalf("%q: %d, %v; want none", asked, n, e)
					}
					continue
				}
				if m, f := x.Lookup(keyOf(size, longest)); m != n || e != api.OK || f != api.OK {
					t.Fatalf("%q: %d, %v; that of %q has %d, %v", asked, n, e, longest, m, f)
				}
			}
		}
	}
}

// A key keeps its place until it goes, whatever becomes of the others, and no two keys have one.
func TestP13_4KeepsPlace(t *testing.T) {
	draw := rand.New(rand.NewSource(6))
	for entries := 1; entries <= 20; entries++ {
		x, _ := trie.New(specOf(6, 1, entries))
		had := map[string]int{}
		for range 400 {
			key := noisy(6, nth(draw.Intn(entries+1+entries/2)), byte(draw.Intn(256)))
			switch draw.Intn(4) {
			case 0:
				x.Delete(key)
			case 1:
				x.Lookup(key)
			default:
				x.Update(key, []byte{1}, uint64(draw.Intn(3)))
			}
			has, taken := map[string]int{}, map[int]int{}
			for _, key := range x.Keys() {
				at, e := x.Lookup(key)
				if e != api.OK || at < 0 || at >= entries {
					t.Fatalf("the key %v has %d, %v", key, at, e)
				}
				if was, there := had[string(key)]; there && was != at {
					t.Fatalf("the key %v has %d, had %d", key, at, was)
				}
				if taken[at]++; taken[at] > 1 {
					t.Fatalf("two keys have %d", at)
				}
				has[string(key)] = at
			}
			had = has
		}
	}
}

// An update is of the place that Lookup tells, which no other key has; each is followed by a look at all places.
func TestP13_4OthersStay(t *testing.T) {
	for _, sort := range [][3]int{{5, 1, 1}, {5, 1, 64}, {6, 3, 40}, {36, 7, 100}} {
		x := newBoth(t, sort[0], sort[1], sort[2])
		for turn, flag := range []uint64{0, 2} {
			for n := range sort[2] {
				key, value := keyOf(sort[0], nth(n)), slices.Repeat([]byte{byte(n) ^ byte(turn+1)<<6}, sort[1])
				x.update(key, value, flag)
				at, e := x.x.Lookup(key)
				b, f := x.x.Value(at)
				if at != n || e != api.OK || f != api.OK || !bytes.Equal(b, value) {
					t.Fatalf("Update(%v): Lookup %d, %v; Value %v, %v", key, at, e, b, f)
				}
				x.look()
			}
		}
		for place := range sort[2] {
			for off := range sort[1] {
				x.set(place, off, []byte{byte(3 * place)})
			}
			x.look()
		}
	}
}

// What is handed in is not kept, and what was told stays as it was.
func TestP13_4ToldApart(t *testing.T) {
	x, _ := trie.New(specOf(6, 8, 2))
	key, given := keyOf(6, "10101010"), []byte("abcdefgh")
	x.Update(key, given, 0)
	key[4] = 0x55
	x.Update(key, given, 0)
	overwrite(key)
	overwrite(given)
	checkKeys(t, x, 6, "01010101 10101010")
	told := x.Keys()
	one, _ := x.Value(0)
	two, _ := x.Value(0)
	three, _ := x.Value(1)
	for _, b := range [][]byte{one, two, three} {
		if string(b) != "abcdefgh" {
			t.Fatalf("%q", b)
		}
	}
	overwrite(one)
	if string(two) != "abcdefgh" || string(three) != "abcdefgh" {
		t.Fatalf("%q, %q", two, three)
	}
	part := []byte("123")
	x.Set(0, 2, part)
	x.Update(keyOf(6, "01010101"), []byte("ABCDEFGH"), 2)
	overwrite(part)
	x.Delete(keyOf(6, "10101010"))
	x.Update(keyOf(6, ""), []byte("ab123fgh"), 1)
	if string(two) != "abcdefgh" || string(three) != "abcdefgh" || !bytes.Equal(told[0], keyOf(6, "01010101")) || !bytes.Equal(told[1], keyOf(6, "10101010")) {
		t.Fatalf("%q, %q, %q", two, three, told)
	}
	checkValue(t, x, 0, "ab123fgh")
	checkValue(t, x, 1, "ABCDEFGH")
	again := x.Keys()
	overwrite(again[0])
	if !bytes.Equal(again[1], keyOf(6, "01010101")) || !bytes.Equal(told[0], keyOf(6, "01010101")) {
		t.Fatalf("%v, %v", again, told)
	}
	again[1] = nil
	overwrite(told[0])
	overwrite(told[1])
	checkKeys(t, x, 6, "- 01010101")
	checkLookup(t, x, keyOf(6, "010101011"), 1)
	checkLookup(t, x, keyOf(6, "11111111"), 0)
}

// Two tries of one make are apart.
func TestP13_4TriesApart(t *testing.T) {
	x, y := newBoth(t, 5, 3, 4), newBoth(t, 5, 3, 4)
	x.update(keyOf(5, "1"), []byte("abc"), 0)
	y.set(2, 1, []byte("z"))
	x.all()
	y.all()
	y.update(keyOf(5, "10"), []byte("xyz"), 1)
	y.update(keyOf(5, "1"), []byte("uvw"), 1)
	z := newBoth(t, 5, 3, 4)
	x.set(3, 0, []byte("123"))
	y.lookup(keyOf(5, "10"))
	x.delete(keyOf(5, "1"))
	x.fill(3, 4)
	y.delete(keyOf(5, "1"))
	x.all()
	y.all()
	z.all()
}

// What looks at a trie, and what may not be, changes nothing.
func TestP13_4NothingChanges(t *testing.T) {
	for _, many := range []int{3, 5} {
		x := newBoth(t, 6, 4, 5)
		x.fill(0, many)
		for _, key := range append(keys(6), keyOf(6, "00"), keyOf(6, "11")) {
			text, right := textOf(6, key)
			_, there := x.where(text)
			x.lookup(key)
			x.update(key, []byte("wxy"), 0)
			x.update(key, []byte("wxyz!"), 2)
			x.update(key, []byte("wxyz"), 3)
			if right && there {
				x.update(key, []byte("wxyz"), 1)
			} else {
				x.delete(key)
				x.update(key, []byte("wxyz"), 2)
			}
			if many == 5 && !there {
				x.update(key, []byte("wxyz"), 0)
			}
			x.all()
		}
		for place := range 5 {
			for _, off := range edges(4) {
				x.set(place, off, nil)
				x.set(place, off, []byte("wxyz!"))
				if off != 0 {
					x.set(place, off, []byte("wxyz"))
				}
				x.look()
			}
		}
	}
}

// heap tells how many bytes are in use.
func heap() int {
	runtime.GC()
	var m runtime.MemStats
	runtime.ReadMemStats(&m)
	return int(m.HeapAlloc)
}

// Of keys that went nothing is kept but the bytes at their places, whatever stays beside them: 4000 keys of 256 bits would take some 30 million bytes.
func TestP13_4NothingIsKeptOfWhatWent(t *testing.T) {
	const size, room = 36, 256
	for _, stays := range []string{"", "1", "0", "10101010101"} {
		draw := rand.New(rand.NewSource(13))
		x, _ := trie.New(specOf(size, 1, 3))
		checkUpdate(t, x, keyOf(size, stays), "s", 1)
		checkUpdate(t, x, keyOf(size, strings.Repeat("10", room/2)), "t", 1)
		before := heap()
		for range 4000 {
			key := keyOf(size, drawnText(draw, room))
			checkUpdate(t, x, key, "u", 1)
			checkDelete(t, x, key)
		}
		if more := heap() - before; more > 4<<20 {
			t.Errorf("beside %q: %d bytes more", stays, more)
		}
		checkLookup(t, x, keyOf(size, stays+"1"), 0)
		runtime.KeepAlive(x)
	}
}

// Calls in any order, held against the chapter's words behind each.
func TestP13_4Drawn(t *testing.T) {
	draw := rand.New(rand.NewSource(12))
	for range 100 {
		size, value, entries := 5+draw.Intn(5), 1+draw.Intn(12), 1+draw.Intn(20)
		x := newBoth(t, size, value, entries)
		longest := 1 + draw.Intn(x.room())
		if draw.Intn(2) == 0 {
			longest = 4
		}
		key := func() []byte {
			switch draw.Intn(12) {
			case 0:
				return drawn(draw, draw.Intn(12))
			case 1:
				return headed(size, uint32(draw.Intn(2*x.room())), byte(draw.Intn(256)))
			case 2, 3, 4:
				if texts := x.texts(); len(texts) > 0 {
					others := neighbours(texts[draw.Intn(len(texts))], x.room())
					return noisy(size, others[draw.Intn(len(others))], byte(draw.Intn(256)))
				}
			}
			return noisy(size, drawnText(draw, draw.Intn(longest+1)), byte(draw.Intn(256)))
		}
		for range 150 {
			length := value
			if draw.Intn(8) == 0 {
				length = draw.Intn(value + 3)
			}
			switch draw.Intn(10) {
			case 0, 1, 2, 3, 4:
				x.update(key(), drawn(draw, length), uint64(draw.Intn(4)))
			case 5:
				x.set(draw.Intn(entries+2)-1, draw.Intn(value+3)-1, drawn(draw, draw.Intn(value+2)))
			case 6, 7:
				x.lookup(key())
			default:
				x.delete(key())
			}
			x.all()
		}
	}
}

// The same of great tries, which are looked at now and then.
func TestP13_4DrawnGreat(t *testing.T) {
	draw := rand.New(rand.NewSource(1024))
	for _, sort := range [][3]int{{7, 8, 200}, {6, 1, 1024}, {36, 4, 1000}} {
		x := newBoth(t, sort[0], sort[1], sort[2])
		for turn := range 5000 {
			text := nth(draw.Intn(sort[2] * 5 / 4))
			if draw.Intn(2) == 0 {
				text = deep(sort[0], draw.Intn(sort[2]*5/4))
			}
			key := noisy(sort[0], text, byte(draw.Intn(256)))
			switch draw.Intn(8) {
			case 0:
				x.delete(key)
			case 1, 2:
				x.lookup(key)
			default:
				x.update(key, valueOf(sort[1], draw.Intn(1<<20)), uint64(draw.Intn(3)))
			}
			if turn%1000 == 0 {
				x.look()
			}
		}
		x.all()
	}
}

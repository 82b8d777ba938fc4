package ring_test

import (
	"bytes"
	"math/rand"
	"runtime"
	"slices"
	"testing"

	"hatchway/api"
	"hatchway/ring"
)

// Records are taken in the order in which they were put, however many there are.
func TestP15_3Order(t *testing.T) {
	for _, entries := range sizes() {
		for _, size := range []int{0, 1, 2, 8, 57, 1024} {
			for many := 0; many <= entries/(head+size); many += 1 + many/2 {
				r, _ := ring.New(specOf(entries))
				for n := range many {
					if e := r.Put(recordOf(size, n)); e != api.OK {
						t.Fatalf("of %d: the record %d: %v", entries, n, e)
					}
				}
				for n := range many {
					if b, e := r.Take(); e != api.OK || !bytes.Equal(b, recordOf(size, n)) {
						t.Fatalf("of %d: the record %d: %v, %v", entries, n, b, e)
					}
				}
				checkEmpty(t, r, entries)
			}
		}
	}
}

// Records of many sizes, each order of them.
func TestP15_3Sizes(t *testing.T) {
	for _, a := range []int{0, 1, 7, 20} {
		for _, b := range []int{0, 1, 8, 19} {
			for _, c := range []int{0, 2, 9, 50} {
				for _, d := range []int{0, 3, 16, 40} {
					x := newBoth(t, 100)
					for n, record := range recordsOf(a, b, c, d, a, b, c, d) {
						x.puts(record)
						if n%4 == 3 {
							x.takes()
						}
					}
					x.drain()
				}
			}
		}
	}
}

// Records that are alike are as many, each told once.
func TestP15_3Alike(t *testing.T) {
	x := newBoth(t, 64)
	for _, record := range []string{"abc", "abc", "", "", "abc", "abd", "abc"} {
		x.puts([]byte(record))
	}
	if len(x.there()) != 6 || x.room() != 4 {
		t.Fatalf("%d records, %d left", len(x.there()), x.room())
	}
	x.drain()
}

// The last record is taken, and others are put anew, often; wrong calls of a ring without records change nothing.
func TestP15_3Anew(t *testing.T) {
	for _, entries := range []int{16, 17, 24, 100, 1024} {
		x := newBoth(t, entries)
		for turn := range 200 {
			x.fill(recordOf(turn%(entries-head+1), turn))
			if turn%3 == 0 {
				x.puts(recordOf(turn%5, turn+1))
			}
			x.puts(make([]byte, entries))
			x.drain()
			x.puts(make([]byte, entries-head+1))
			x.puts(make([]byte, maxRecord+1))
		}
	}
	for _, entries := range sizes() {
		x := newBoth(t, entries)
		for turn := range 4 {
			x.fillTo(turn)
			x.puts(nil)
			x.drain()
		}
		x.fill(recordOf(entries-head, 1))
		x.drain()
	}
}

// The one record that is there is taken and another put, or another put and the first one taken, over and over.
func TestP15_3OneByOne(t *testing.T) {
	x := newBoth(t, 16)
	for n := range 500 {
		x.fill(recordOf(n%9, n))
		x.puts(recordOf(n%9, n+1))
		x.takes()
		for len(x.there()) > 0 {
			x.takes()
		}
	}
	x = newBoth(t, 50)
	x.fill(recordOf(3, 0))
	for n := range 500 {
		x.fill(recordOf(n%17, n+1))
		x.takes()
	}
	x.drain()
}

// Records are put and taken by turns, far more than there is room for in all, so many at a time; room that a record took is there again.
func TestP15_3ByTurns(t *testing.T) {
	for _, entries := range []int{16, 31, 40, 64, 129} {
		for start := range 5 {
			for step := 1; step <= 5; step++ {
				x := newBoth(t, entries)
				for n := range start {
					x.puts(recordOf(n, n))
				}
				for turn := range 60 {
					for n := range step {
						x.puts(recordOf((turn*5+n)%23, 100*turn+n))
					}
					for range step {
						x.takes()
					}
				}
				x.drain()
			}
		}
	}
	x := newBoth(t, most)
	x.fillTo(head)
	for n := range 3000 {
		x.puts(recordOf(n%100, n))
		x.takes()
	}
	x.drain()
}

// A full ring: as soon as a record is taken, one that takes as much is put, over and over, and none that takes more.
func TestP15_3FullByTurns(t *testing.T) {
	for _, entries := range sizes() {
		x := newBoth(t, entries)
		x.fillTo(0)
		for n := range 400 {
			size := len(x.there()[0])
			x.takes()
			if e := x.puts(recordOf(size+1, n)); e != api.ErrFull {
				t.Fatalf("of %d: %v", entries, e)
			}
			x.fill(recordOf(size, n))
		}
		x.drain()
	}
}

// All rows of six calls, each held against the chapter's words.
func TestP15_3EachRowOfCalls(t *testing.T) {
	const calls, rows = 5, 5 * 5 * 5 * 5 * 5 * 5
	for _, entries := range []int{16, 17, 18, 19, 25, 33} {
		for row := range rows {
			x := newBoth(t, entries)
			for i, n := 0, row; i < 6; i, n = i+1, n/calls {
				switch n % calls {
				case 0:
					x.puts(nil)
				case 1:
					x.puts([]byte{byte('a' + i)})
				case 2:
					x.puts([]byte{byte('a' + i), 'z'})
				case 3:
					x.puts(recordOf(9, i))
				case 4:
					x.takes()
				}
			}
			x.drain()
		}
	}
}

// What is handed in is not kept, and what was told stays as it was, whatever is done behind it.
func TestP15_3ToldApart(t *testing.T) {
	r, _ := ring.New(specOf(40))
	given := []byte("abcdefgh")
	r.Put(given)
	overwrite(given)
	r.Put(given[:4])
	overwrite(given)
	one, _ := r.Take()
	if string(one) != "abcdefgh" {
		t.Fatalf("%q", one)
	}
	overwrite(one)
	checkPut(t, r, "ABCDEFGH", api.OK, 12)
	two, _ := r.Take()
	want := []byte("abcd")
	overwrite(want)
	checkPut(t, r, "0123", api.OK, 12)
	if !bytes.Equal(two, want) {
		t.Fatalf("%q; want %q", two, want)
	}
	_ = append(two, "zzzzzzzzzzzzzzzz"...)
	overwrite(two)
	three, _ := r.Take()
	four, _ := r.Take()
	checkEmpty(t, r, 40)
	if string(three) != "ABCDEFGH" || string(four) != "0123" {
		t.Fatalf("%q, %q", three, four)
	}
	overwrite(three)
	checkPut(t, r, "hgfedcba", api.OK, 24)
	if string(four) != "0123" {
		t.Fatalf("%q", four)
	}
	overwrite(four)
	checkTake(t, r, "hgfedcba", 40)
}

// The same slice put over and over is a record each time, with the bytes that it had then.
func TestP15_3OneSliceOften(t *testing.T) {
	r, _ := ring.New(specOf(1000))
	given := make([]byte, 2, 100)
	for n := range 100 {
		given[0], given[1] = byte(n), byte(3*n)
		if e := r.Put(given); e != api.OK {
			t.Fatalf("%d: %v", n, e)
		}
	}
	for n := range 100 {
		if b, e := r.Take(); e != api.OK || len(b) != 2 || b[0] != byte(n) || b[1] != byte(3*n) {
			t.Fatalf("%d: %v, %v", n, b, e)
		}
	}
	checkEmpty(t, r, 1000)
}

// What was told stays as it was while the ring is filled and drained over and over, and what is written over it changes nothing there.
func TestP15_3ToldStays(t *testing.T) {
	for _, entries := range []int{16, 40, 300, most} {
		r, _ := ring.New(specOf(entries))
		var told, was [][]byte
		for turn := range 80 {
			for n := 0; r.Put(recordOf((turn+n)%40, 10*turn+n)) == api.OK; n++ {
			}
			for range 1 + turn%9 {
				if b, e := r.Take(); e == api.OK && len(b) > 0 {
					told, was = append(told, b), append(was, bytes.Clone(b))
				}
			}
		}
		if len(told) < 10 || !slices.EqualFunc(told, was, bytes.Equal) {
			t.Fatalf("of %d: of %d records some are no more what they were", entries, len(told))
		}
		for i, b := range told {
			overwrite(b)
			if i+1 < len(told) && !bytes.Equal(told[i+1], was[i+1]) {
				t.Fatalf("of %d: the records %d and %d lie together", entries, i, i+1)
			}
		}
	}
}

// A record that was told may be put again, to the same ring.
func TestP15_3ToldIsPut(t *testing.T) {
	r, _ := ring.New(specOf(50))
	for n := range 3 {
		r.Put(recordOf(5, n))
	}
	for n := range 30 {
		told, e := r.Take()
		if e != api.OK || !bytes.Equal(told, recordOf(5, n%3)) || r.Put(told) != api.OK || r.Room() != 11 {
			t.Fatalf("%d: %v, %v, %d", n, told, e, r.Room())
		}
		overwrite(told)
	}
}

// Rings of one make are apart.
func TestP15_3RingsApart(t *testing.T) {
	x, y := newBoth(t, 60), newBoth(t, 60)
	x.fill([]byte("abc"))
	y.look()
	y.fill([]byte("xyz"), nil)
	z := newBoth(t, 60)
	x.fill(recordsOf(1, 2, 3)...)
	y.takes()
	for _, one := range []*both{x, y, z} {
		one.look()
		one.all()
	}
	for _, one := range []*both{z, x, y} {
		one.drain()
	}
}

// What may not be changes nothing, nor does Room: all records are told behind it.
func TestP15_3NothingChanges(t *testing.T) {
	for _, entries := range sizes() {
		for _, left := range []int{entries - head, entries / 2, 11, 9, 8, 7, 2, 1, 0} {
			if left > entries-head {
				continue
			}
			x := newBoth(t, entries)
			x.fillTo(left)
			many := len(x.there())
			for _, length := range []int{left, left - head + 1, left - head + 2, entries, entries + 1, most, maxRecord - 1, maxRecord, maxRecord + 1, 2 * maxRecord} {
				if length >= 0 && length > left-head {
					x.puts(make([]byte, length))
				}
			}
			if len(x.there()) != many {
				t.Fatalf("of %d: %d records are %d", entries, many, len(x.there()))
			}
			x.drain()
		}
	}
}

// Rings that were made and asked alike tell alike.
func TestP15_3AskedAlike(t *testing.T) {
	var rows [2][]string
	for i := range rows {
		draw := rand.New(rand.NewSource(15))
		r, _ := ring.New(specOf(200))
		for range 3000 {
			if draw.Intn(3) == 0 {
				b, e := r.Take()
				rows[i] = append(rows[i], string(b)+e.Error())
				continue
			}
			e := r.Put(recordOf(draw.Intn(40), draw.Intn(1000)))
			rows[i] = append(rows[i], e.Error())
		}
	}
	if !slices.Equal(rows[0], rows[1]) {
		t.Error("two rings that were asked alike do not tell alike")
	}
}

// heap tells how many bytes are in use.
func heap() int {
	runtime.GC()
	var m runtime.MemStats
	runtime.ReadMemStats(&m)
	return int(m.HeapAlloc)
}

// Of records that were taken, or not put, nothing is kept: 64 full rings take a million bytes.
func TestP15_3NothingIsKeptOfWhatWent(t *testing.T) {
	const many, full, some = 64, 1 << 20, 1 << 18
	record := recordOf(most-head, 1)
	half := record[:most/2-head]
	rings := make([]*ring.Ring, many)
	before := heap()
	check := func(what string, most int) {
		t.Helper()
		if more := heap() - before; more > most {
			t.Errorf("%s: %d bytes more", what, more)
		}
		runtime.KeepAlive(rings)
	}
	each := func(call func(r *ring.Ring)) {
		for _, r := range rings {
			call(r)
		}
	}
	for i := range rings {
		rings[i], _ = ring.New(specOf(most))
	}
	check("made", some)
	each(func(r *ring.Ring) { r.Put(record) })
	check("full", full+some)
	each(func(r *ring.Ring) { r.Put(half); r.Put(make([]byte, maxRecord)) })
	check("full, and more refused", full+some)
	each(func(r *ring.Ring) { r.Take() })
	check("taken", some)
	each(func(r *ring.Ring) { r.Put(half); r.Put(half); r.Take() })
	check("half of them taken", full/2+some)
	each(func(r *ring.Ring) { r.Take() })
	check("both taken", some)
	each(func(r *ring.Ring) {
		for range 200 {
			r.Put(half)
			r.Put(half)
			r.Take()
			r.Take()
		}
	})
	check("put and taken by turns", some)
	each(func(r *ring.Ring) { r.Put(half); r.Put(nil); r.Take() })
	check("one without bytes left", some)
	each(func(r *ring.Ring) { checkTake(t, r, "", most) })
}

func drawn(draw *rand.Rand, size int) []byte {
	b := make([]byte, size)
	draw.Read(b)
	return b
}

// Calls in any order, held against the chapter's words behind each.
func TestP15_3Drawn(t *testing.T) {
	draw := rand.New(rand.NewSource(16))
	for range 400 {
		entries := least + draw.Intn(150)
		x := newBoth(t, entries)
		takes, longest := 1+draw.Intn(8), 1+draw.Intn(entries)
		for range 300 {
			switch {
			case draw.Intn(10) < takes:
				x.takes()
			case draw.Intn(4) == 0:
				x.puts(drawn(draw, max(0, x.room()-head-1+draw.Intn(3))))
			default:
				x.puts(drawn(draw, draw.Intn(longest)))
			}
			if draw.Intn(40) == 0 {
				x.all()
			}
		}
		x.drain()
	}
}

// The same of great rings.
func TestP15_3DrawnGreat(t *testing.T) {
	draw := rand.New(rand.NewSource(16384))
	for _, longest := range []int{1, 10, 300, 2000, most} {
		for _, entries := range []int{4000, 16383, most} {
			x := newBoth(t, entries)
			for range 3000 {
				if draw.Intn(5) < 2 {
					x.takes()
				} else {
					x.puts(drawn(draw, draw.Intn(longest)))
				}
			}
			x.drain()
		}
	}
}

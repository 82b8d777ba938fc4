package queue_test

import (
	"bytes"
	"math/rand"
	"runtime"
	"slices"
	"testing"

	"hatchway/api"
	"hatchway/queue"
)

// order pops all values.
func order(t *testing.T, q *queue.Queue) [][]byte {
	t.Helper()
	var told [][]byte
	for range q.Many() {
		b, e := q.Pop()
		if e != api.OK {
			t.Fatalf("Pop: %v", e)
		}
		told = append(told, b)
	}
	if b, e := q.Pop(); b != nil || e != api.ErrNone {
		t.Fatalf("Pop of none: %v, %v", b, e)
	}
	return told
}

// A MapQueue tells the values in the order in which they were pushed, a MapStack the other way round, however many there are.
func TestP14_4Order(t *testing.T) {
	eachKind(t, func(t *testing.T, kind api.MapKind) {
		for _, sort := range sorts() {
			for _, many := range []int{0, 1, 2, sort[1] / 2, sort[1] - 1, sort[1]} {
				q, _ := queue.New(specOf(kind, sort[0], sort[1]))
				var want [][]byte
				for n := range min(many, sort[1]) {
					value := valueOf(sort[0], n)
					want = append(want, value)
					if e := q.Push(value, uint64(n%3%2)*2); e != api.OK {
						t.Fatalf("%v: value %d: %v", sort, n, e)
					}
				}
				if kind == last {
					slices.Reverse(want)
				}
				if told := order(t, q); !slices.EqualFunc(told, want, bytes.Equal) {
					t.Fatalf("%v: %v; want %v", sort, told, want)
				}
			}
		}
	})
}

// The same where values are popped between: a MapQueue tells all in the order in which they were pushed; a MapStack each behind those that were pushed later and were there.
func TestP14_4OrderByTurns(t *testing.T) {
	draw := rand.New(rand.NewSource(14))
	for entries := 1; entries <= 20; entries++ {
		q, _ := queue.New(specOf(first, 4, entries))
		s, _ := queue.New(specOf(last, 4, entries))
		pushes, pops := 0, 0
		var there []int
		for range 600 {
			if draw.Intn(2) == 0 && len(there) < entries {
				there = append(there, pushes)
				if e, f := q.Push(valueOf(4, pushes), 0), s.Push(valueOf(4, pushes), 2); e != api.OK || f != api.OK {
					t.Fatalf("of %d: %v, %v", entries, e, f)
				}
				pushes++
			} else if len(there) > 0 {
				checkPop(t, q, string(valueOf(4, pops)))
				checkPop(t, s, string(valueOf(4, there[len(there)-1])))
				there = there[:len(there)-1]
				pops++
			}
		}
	}
}

// Where some had to go, those that were pushed last are told, in order.
func TestP14_4OrderOfTheLast(t *testing.T) {
	eachKind(t, func(t *testing.T, kind api.MapKind) {
		for entries := 1; entries <= 40; entries++ {
			for _, more := range []int{1, 2, entries - 1, entries, entries + 1, 3*entries + 1} {
				q, _ := queue.New(specOf(kind, 2, entries))
				for n := range entries + more {
					q.Push(valueOf(2, n), 2)
				}
				told := order(t, q)
				if kind == last {
					slices.Reverse(told)
				}
				for i, b := range told {
					if want := valueOf(2, more+i); !bytes.Equal(b, want) {
						t.Fatalf("of %d, %d more: %v at %d; want %v", entries, more, b, i, want)
					}
				}
				if len(told) != entries {
					t.Fatalf("of %d, %d more: %d", entries, more, len(told))
				}
			}
		}
	})
}

// All rows of six calls, each held against the chapter's words.
func TestP14_4EachRowOfCalls(t *testing.T) {
	const sorts, rows = 5, 5 * 5 * 5 * 5 * 5 * 5
	eachKind(t, func(t *testing.T, kind api.MapKind) {
		calls := 0
		for entries := 1; entries <= 3; entries++ {
			for row := range rows {
				x := newBoth(t, kind, 1, entries)
				for i, n := 0, row; i < 6; i, n = i+1, n/sorts {
					switch n % sorts {
					case 0:
						x.push([]byte{byte('a' + i)}, 0)
					case 1:
						x.push([]byte{byte('a' + i)}, 2)
					case 2:
						x.pop()
					case 3:
						x.peek()
					case 4:
						x.push([]byte{byte('a' + i)}, 1)
					}
					calls++
				}
				x.drain()
			}
		}
		if calls != 3*6*15625 {
			t.Errorf("%d calls", calls)
		}
	})
}

// What is handed in is not kept, and what was told stays as it was, whatever is done behind it.
func TestP14_4ToldApart(t *testing.T) {
	eachKind(t, func(t *testing.T, kind api.MapKind) {
		q, _ := queue.New(specOf(kind, 8, 2))
		given := []byte("abcdefgh")
		checkPush(t, q, string(given), 0, api.OK)
		q.Push(given, 0)
		overwrite(given)
		one, _ := q.Peek()
		two, _ := q.Peek()
		overwrite(one)
		if string(two) != "abcdefgh" {
			t.Fatalf("%q", two)
		}
		three, _ := q.Pop()
		overwrite(two)
		four, _ := q.Peek()
		if string(three) != "abcdefgh" || string(four) != "abcdefgh" {
			t.Fatalf("%q, %q", three, four)
		}
		checkPush(t, q, "ABCDEFGH", 0, api.OK)
		checkPush(t, q, "01234567", 2, api.OK)
		checkPush(t, q, "76543210", 2, api.OK)
		if string(three) != "abcdefgh" || string(four) != "abcdefgh" {
			t.Fatalf("%q, %q", three, four)
		}
		overwrite(three)
		overwrite(four)
		five, _ := q.Pop()
		six, _ := q.Pop()
		checkEmpty(t, q)
		if kind == last {
			five, six = six, five
		}
		if string(five) != "01234567" || string(six) != "76543210" {
			t.Fatalf("%q, %q", five, six)
		}
		checkPush(t, q, "hgfedcba", 0, api.OK)
		overwrite(five)
		if string(six) != "76543210" {
			t.Fatalf("%q", six)
		}
		overwrite(six)
		checkPop(t, q, "hgfedcba")
	})
}

// What was told stays as it was while the queue is filled and drained over and over, and what is written over it changes nothing there.
func TestP14_4ToldStays(t *testing.T) {
	eachKind(t, func(t *testing.T, kind api.MapKind) {
		for _, sort := range [][2]int{{1, 1}, {3, 4}, {64, 7}, {1024, 3}} {
			q, _ := queue.New(specOf(kind, sort[0], sort[1]))
			var told, was [][]byte
			keep := func(b []byte, e api.Errno) {
				if e == api.OK {
					told, was = append(told, b), append(was, bytes.Clone(b))
				}
			}
			for turn := range 60 {
				for n := range turn % (2*sort[1] + 1) {
					q.Push(valueOf(sort[0], 10*turn+n), 2)
					keep(q.Peek())
				}
				for range turn % (sort[1] + 1) {
					keep(q.Pop())
				}
			}
			if len(told) < 60 || !slices.EqualFunc(told, was, bytes.Equal) {
				t.Fatalf("%v: of %d values some are no more what they were", sort, len(told))
			}
			for i, b := range told {
				overwrite(b)
				if i+1 < len(told) && !bytes.Equal(told[i+1], was[i+1]) {
					t.Fatalf("%v: the values %d and %d lie together", sort, i, i+1)
				}
			}
		}
	})
}

// A value that was told may be pushed again, to the same queue.
func TestP14_4ToldIsPushed(t *testing.T) {
	eachKind(t, func(t *testing.T, kind api.MapKind) {
		x := newBoth(t, kind, 5, 3)
		x.fill(0, 3)
		for n := range 30 {
			told, e := x.q.Peek()
			x.hold("Peek", bytes.Clone(told), e)
			x.push(told, 2)
			if n%3 == 0 {
				overwrite(told)
				x.pop()
			}
			x.look()
		}
		x.drain()
	})
}

// Two queues of one make are apart.
func TestP14_4QueuesApart(t *testing.T) {
	eachKind(t, func(t *testing.T, kind api.MapKind) {
		x, y := newBoth(t, kind, 3, 4), newBoth(t, kind, 3, 4)
		x.push([]byte("abc"), 0)
		x.look()
		y.look()
		y.push([]byte("xyz"), 2)
		y.push([]byte("uvw"), 0)
		z := newBoth(t, kind, 3, 4)
		other := newBoth(t, first+last-kind, 3, 4)
		x.fill(0, 3)
		other.fill(10, 3)
		y.pop()
		for _, one := range []*both{x, y, z, other} {
			one.look()
		}
		for _, one := range []*both{z, x, other, y} {
			one.drain()
		}
	})
}

// What may not be changes nothing, nor does what looks at a queue: all values are told behind it.
func TestP14_4NothingChanges(t *testing.T) {
	eachKind(t, func(t *testing.T, kind api.MapKind) {
		for many := range 6 {
			for _, flag := range flags() {
				x := newBoth(t, kind, 4, 5)
				x.fill(0, many)
				for _, length := range lengths(4) {
					x.push(row(length), flag)
					x.look()
				}
				if flag != 0 && flag != 2 || flag == 0 && many == 5 {
					x.push(row(4), flag)
				}
				if len(x.values) != many {
					t.Fatalf("%d of %d are left", len(x.values), many)
				}
				x.drain()
			}
		}
	})
}

// Queues that were made and asked alike tell alike.
func TestP14_4Alike(t *testing.T) {
	eachKind(t, func(t *testing.T, kind api.MapKind) {
		var rows [2][]string
		for i := range rows {
			draw := rand.New(rand.NewSource(41))
			q, _ := queue.New(specOf(kind, 2, 30))
			for range 3000 {
				if draw.Intn(3) == 0 {
					b, e := q.Pop()
					rows[i] = append(rows[i], string(b)+e.Error())
					continue
				}
				e := q.Push(valueOf(2, draw.Intn(1000)), uint64(draw.Intn(2))*2)
				rows[i] = append(rows[i], e.Error())
			}
		}
		if !slices.Equal(rows[0], rows[1]) {
			t.Error("two queues that were asked alike do not tell alike")
		}
	})
}

// heap tells how many bytes are in use.
func heap() int {
	runtime.GC()
	var m runtime.MemStats
	runtime.ReadMemStats(&m)
	return int(m.HeapAlloc)
}

// Of values that were popped, or had to go, nothing is kept: a full queue's take a million bytes.
func TestP14_4NothingIsKeptOfWhatWent(t *testing.T) {
	eachKind(t, func(t *testing.T, kind api.MapKind) {
		const full, some = 1 << 20, 1 << 18
		value := row(1024)
		before := heap()
		q, _ := queue.New(specOf(kind, 1024, 1024))
		check := func(what string, most int) {
			t.Helper()
			if more := heap() - before; more > most {
				t.Errorf("%s: %d bytes more", what, more)
			}
			runtime.KeepAlive(q)
		}
		check("made", some)
		for range 5000 {
			q.Push(value, 2)
		}
		check("full", full+some)
		for range 512 {
			q.Pop()
		}
		check("half of them popped", full/2+some)
		for range 512 {
			q.Pop()
		}
		check("all popped", some)
		for range 5000 {
			q.Push(value, 0)
			q.Push(value, 0)
			q.Pop()
			q.Pop()
		}
		check("pushed and popped by turns", some)
		checkEmpty(t, q)
		for range 1024 {
			q.Push(value, 0)
		}
		for range 1023 {
			q.Pop()
		}
		check("all popped but one", some)
		checkMany(t, q, 1)
	})
}

func drawn(draw *rand.Rand, size int) []byte {
	b := make([]byte, size)
	draw.Read(b)
	return b
}

// Calls in any order, held against the chapter's words behind each.
func TestP14_4Drawn(t *testing.T) {
	draw := rand.New(rand.NewSource(15))
	eachKind(t, func(t *testing.T, kind api.MapKind) {
		for range 300 {
			size, entries := 1+draw.Intn(12), 1+draw.Intn(20)
			x := newBoth(t, kind, size, entries)
			pops := 1 + draw.Intn(8)
			for range 300 {
				length := size
				if draw.Intn(8) == 0 {
					length = draw.Intn(size + 3)
				}
				if draw.Intn(10) < pops {
					x.pop()
				} else {
					x.push(drawn(draw, length), uint64(draw.Intn(4)))
				}
				x.look()
				if draw.Intn(40) == 0 {
					x.all()
				}
			}
			x.drain()
		}
	})
}

// The same of great queues.
func TestP14_4DrawnGreat(t *testing.T) {
	draw := rand.New(rand.NewSource(1024))
	eachKind(t, func(t *testing.T, kind api.MapKind) {
		for _, sort := range [][2]int{{1, 1024}, {1024, 100}, {7, 1000}} {
			x := newBoth(t, kind, sort[0], sort[1])
			for range 8000 {
				if draw.Intn(5) < 2 {
					x.pop()
				} else {
					x.push(drawn(draw, sort[0]), uint64(draw.Intn(3)))
				}
			}
			x.look()
			x.drain()
		}
	})
}

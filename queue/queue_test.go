package queue_test

import (
	"math"
	"testing"

	"hatchway/api"
	"hatchway/kinds"
	"hatchway/queue"
)

// The whole of what callers lean on.
var _ interface {
	Push(value []byte, flags uint64) api.Errno
	Pop() ([]byte, api.Errno)
	Peek() ([]byte, api.Errno)
	Many() int
} = new(queue.Queue)

// sorts are queues by the bytes of a value, and how many there may be: one of each, as many of each as may be, and some between.
func sorts() [][2]int {
	return [][2]int{{1, 1}, {1, 2}, {1, 3}, {2, 1}, {1024, 1}, {1, 256}, {1, 1024}, {1024, 1024}, {3, 7}, {8, 16}, {2, 300}, {1023, 3}, {255, 5}, {4, 1023}}
}

func checkPush(t *testing.T, q *queue.Queue, value string, flags uint64, want api.Errno) {
	t.Helper()
	if e := q.Push([]byte(value), flags); e != want {
		t.Errorf("Push(%q, %d): %v; want %v", value, flags, e, want)
	}
}

// checkPop holds what Peek and Pop tell against a value.
func checkPop(t *testing.T, q *queue.Queue, want string) {
	t.Helper()
	if b, e := q.Peek(); string(b) != want || e != api.OK {
		t.Errorf("Peek: %q, %v; want %q", b, e, want)
	}
	if b, e := q.Pop(); string(b) != want || e != api.OK {
		t.Errorf("Pop: %q, %v; want %q", b, e, want)
	}
}

// checkEmpty asks a queue without values.
func checkEmpty(t *testing.T, q *queue.Queue) {
	t.Helper()
	for range 2 {
		if b, e := q.Peek(); b != nil || e != api.ErrNone {
			t.Errorf("Peek: %q, %v; want none", b, e)
		}
		if b, e := q.Pop(); b != nil || e != api.ErrNone {
			t.Errorf("Pop: %q, %v; want none", b, e)
		}
		checkMany(t, q, 0)
	}
}

func checkMany(t *testing.T, q *queue.Queue, want int) {
	t.Helper()
	if n := q.Many(); n != want {
		t.Errorf("Many: %d; want %d", n, want)
	}
}

func checkNew(t *testing.T, s api.MapSpec) *queue.Queue {
	t.Helper()
	want := wantNew(s)
	q, e := queue.New(s)
	if e != want || (q != nil) != (want == api.OK) {
		t.Fatalf("New(%+v): %v, %v; want %v", s, q != nil, e, want)
	}
	if own := kinds.Spec(s); own != api.OK && e != own {
		t.Fatalf("New(%+v): %v; kinds tells %v", s, e, own)
	}
	return q
}

// Each Kind that a byte can be, with parts that are right for some of them, and such as are right for none.
func TestP14_1Kinds(t *testing.T) {
	made := 0
	for kind := range 256 {
		for _, key := range []int{-1, 0, 1, 4, 5, 36, 64, 1 << 32, 1<<32 + 4, math.MinInt64, math.MaxInt64} {
			for _, value := range []int{-1, 0, 1, 8, 1024, 1025, 1 << 32, 1<<32 + 1, math.MinInt64, math.MaxInt64} {
				for _, entries := range []int{-1, 0, 1, 16, 64, 1024, 1025, 16384, 1<<32 + 1, math.MaxInt64} {
					if q := checkNew(t, api.MapSpec{Kind: api.MapKind(kind), Key: key, Value: value, Entries: entries}); q != nil {
						made++
						checkEmpty(t, q)
					}
				}
			}
		}
	}
	if made != 2*3*4 {
		t.Errorf("%d queues were made", made)
	}
}

// Each number of values, of bytes of one, and of bytes of a key, which there may not be.
func TestP14_1Parts(t *testing.T) {
	eachKind(t, func(t *testing.T, kind api.MapKind) {
		for n := -3; n <= 1030; n++ {
			checkNew(t, specOf(kind, n, 1))
			checkNew(t, specOf(kind, 1, n))
			checkNew(t, specOf(kind, n, 1024))
			checkNew(t, specOf(kind, 1024, n))
			checkNew(t, api.MapSpec{Kind: kind, Key: n, Value: 1, Entries: 1})
			checkNew(t, api.MapSpec{Kind: 7, Value: n, Entries: 16})
		}
	})
}

func TestP14_1FirstError(t *testing.T) {
	for _, x := range []struct {
		s api.MapSpec
		e api.Errno
	}{
		{api.MapSpec{}, 9}, {api.MapSpec{Kind: 9}, 9}, {api.MapSpec{Kind: 255, Value: 1, Entries: 1}, 9}, {api.MapSpec{Value: 1, Entries: 1}, 9}, {api.MapSpec{Kind: 9, Value: 1, Entries: 1}, 9},
		{api.MapSpec{Kind: 5}, 2}, {specOf(5, 1, 0), 2}, {specOf(5, 0, 1), 2}, {specOf(5, 1, 1025), 2}, {specOf(5, 1025, 1), 2}, {specOf(5, 1, -1), 2}, {specOf(5, -1, 1), 2}, {api.MapSpec{Kind: 5, Key: 1, Value: 1, Entries: 1}, 2}, {api.MapSpec{Kind: 5, Key: -1, Value: 1, Entries: 1}, 2}, {api.MapSpec{Kind: 5, Key: 4, Value: 1, Entries: 1}, 2},
		{api.MapSpec{Kind: 6}, 2}, {specOf(6, 1, 0), 2}, {specOf(6, 0, 1), 2}, {specOf(6, 1, 1025), 2}, {specOf(6, 1025, 1), 2}, {specOf(6, 1, -1), 2}, {specOf(6, -1, 1), 2}, {api.MapSpec{Kind: 6, Key: 1, Value: 1, Entries: 1}, 2}, {api.MapSpec{Kind: 6, Key: -1, Value: 1, Entries: 1}, 2}, {api.MapSpec{Kind: 6, Key: 4, Value: 1, Entries: 1}, 2},
		{api.MapSpec{Kind: 1}, 2}, {api.MapSpec{Kind: 1, Value: 1, Entries: 1}, 2}, {api.MapSpec{Kind: 2, Value: 1, Entries: 1}, 2}, {api.MapSpec{Kind: 3, Value: 1, Entries: 1}, 2}, {api.MapSpec{Kind: 4, Value: 1, Entries: 1}, 2}, {api.MapSpec{Kind: 7, Value: 1, Entries: 16}, 2}, {api.MapSpec{Kind: 7, Entries: 15}, 2}, {api.MapSpec{Kind: 8, Value: 8, Entries: 1}, 2},
		{api.MapSpec{Kind: 1, Key: 4, Value: 1, Entries: 1}, 9}, {api.MapSpec{Kind: 2, Key: 5, Value: 1, Entries: 1}, 9}, {api.MapSpec{Kind: 3, Key: 5, Value: 1, Entries: 1}, 9}, {api.MapSpec{Kind: 4, Key: 5, Value: 1, Entries: 1}, 9}, {api.MapSpec{Kind: 7, Entries: 16}, 9}, {api.MapSpec{Kind: 7, Entries: 1024}, 9}, {api.MapSpec{Kind: 8, Key: 4, Value: 8, Entries: 1}, 9},
		{specOf(5, 1, 1), 0}, {specOf(5, 1024, 1024), 0}, {specOf(6, 1, 1), 0}, {specOf(6, 1024, 1024), 0},
	} {
		if q, e := queue.New(x.s); e != x.e || (q != nil) != (e == api.OK) {
			t.Errorf("New(%+v): %v, %v; want %v", x.s, q != nil, e, x.e)
		}
	}
}

// No value is there at first, whatever the make; then there is room for Entries values of Value bytes.
func TestP14_1Empty(t *testing.T) {
	eachKind(t, func(t *testing.T, kind api.MapKind) {
		for _, sort := range sorts() {
			x := newBoth(t, kind, sort[0], sort[1])
			x.drain()
			x.fill(0, sort[1])
			if e := x.push(row(sort[0]), 0); e != api.ErrFull {
				t.Fatalf("%v: %v", sort, e)
			}
			x.all()
		}
		for n := 1; n <= 1024; n += 11 {
			for _, x := range []*both{newBoth(t, kind, n, 1+n%3), newBoth(t, kind, 1+n%5, n)} {
				x.drain()
				x.fill(0, x.room)
				x.push(row(x.size), 0)
				x.drain()
			}
		}
	})
}

// checkNothing asks a queue that is not there for everything, right or wrong.
func checkNothing(t *testing.T, name string, q *queue.Queue) {
	t.Helper()
	for range 2 {
		for _, value := range [][]byte{nil, {}, row(1), row(3), row(4), row(5), row(2000)} {
			for _, flag := range flags() {
				if e := q.Push(value, flag); e != api.ErrNil {
					t.Errorf("%s: Push(%v, %d): %v", name, value, flag, e)
				}
			}
		}
		if b, e := q.Peek(); b != nil || e != api.ErrNil {
			t.Errorf("%s: Peek: %v, %v", name, b, e)
		}
		if b, e := q.Pop(); b != nil || e != api.ErrNil {
			t.Errorf("%s: Pop: %v, %v", name, b, e)
		}
		checkMany(t, q, 0)
	}
}

// What New did not answer is no queue.
func TestP14_1NoQueue(t *testing.T) {
	var none *queue.Queue
	checkNothing(t, "nil", none)
	checkNothing(t, "zero", &queue.Queue{})
	checkNothing(t, "new", new(queue.Queue))
	queues := make([]queue.Queue, 2)
	checkNothing(t, "of a slice", &queues[1])
	refused, _ := queue.New(specOf(7, 4, 4))
	checkNothing(t, "refused", refused)
	eachKind(t, func(t *testing.T, kind api.MapKind) {
		x := newBoth(t, kind, 4, 4)
		x.fill(0, 3)
		copied := *x.q
		checkNothing(t, "a copy", &copied)
		x.many()
		x.all()
		x.fill(3, 1)
		x.pop()
		checkNothing(t, "a copy", &copied)
		x.many()
		x.drain()
		checkNothing(t, "a copy", &copied)
	})
}

func TestP14_2Example(t *testing.T) {
	for kind, want := range map[api.MapKind][2]string{api.MapQueue: {"b", "c"}, api.MapStack: {"c", "b"}} {
		q, e := queue.New(api.MapSpec{Kind: kind, Key: 0, Value: 1, Entries: 2})
		if q == nil || e != api.OK {
			t.Fatalf("New: %v, %v", q != nil, e)
		}
		checkMany(t, q, 0)
		checkPush(t, q, "a", api.FlagAny, api.OK)
		checkMany(t, q, 1)
		checkPush(t, q, "b", api.FlagAny, api.OK)
		checkMany(t, q, 2)
		checkPush(t, q, "c", api.FlagAny, api.ErrFull)
		checkMany(t, q, 2)
		checkPush(t, q, "c", api.FlagThere, api.OK)
		checkMany(t, q, 2)
		checkPop(t, q, want[0])
		checkMany(t, q, 1)
		checkPop(t, q, want[1])
		checkEmpty(t, q)
	}
}

// Values of each number of bytes, with room and without: only those of Value bytes are pushed.
func TestP14_2Lengths(t *testing.T) {
	eachKind(t, func(t *testing.T, kind api.MapKind) {
		for _, size := range []int{1, 2, 3, 8, 255, 256, 257, 1023, 1024} {
			x := newBoth(t, kind, size, 3)
			for many := range 4 {
				fits := 0
				for length := range 1300 {
					e := x.push(row(length), 2)
					if e == api.OK {
						fits++
					} else if e != api.ErrArg {
						t.Fatalf("%d bytes: %v", length, e)
					}
					if length != size {
						x.push(row(length), 0)
					}
				}
				if fits != 1 {
					t.Errorf("of %d lengths a value of %d bytes was pushed, %d being there", fits, size, many)
				}
				x.all()
			}
			x.push(nil, 0)
			x.push([]byte{}, 2)
			x.push(make([]byte, 1<<16+size), 0)
			x.drain()
		}
	})
}

// Flags that there are, and others, with room and without: others are wrong, whether the value is right or not.
func TestP14_2Flags(t *testing.T) {
	eachKind(t, func(t *testing.T, kind api.MapKind) {
		for _, sort := range [][2]int{{1, 1}, {4, 3}, {1024, 2}} {
			for many := range sort[1] + 1 {
				for _, flag := range flags() {
					x := newBoth(t, kind, sort[0], sort[1])
					x.fill(0, many)
					e := x.push(row(sort[0]), flag)
					want := api.OK
					switch {
					case flag == 0 && many == sort[1]:
						want = api.ErrFull
					case flag != 0 && flag != 2:
						want = api.ErrArg
					}
					if e != want {
						t.Fatalf("%d of %d, flags %d: %v; want %v", many, sort[1], flag, e, want)
					}
					x.push(row(sort[0]-1), flag)
					x.push(row(sort[0]+1), flag)
					x.drain()
				}
			}
		}
	})
}

// Which of several errors comes first.
func TestP14_2FirstError(t *testing.T) {
	eachKind(t, func(t *testing.T, kind api.MapKind) {
		q, _ := queue.New(specOf(kind, 2, 1))
		for _, x := range []struct {
			value string
			flags uint64
			e     api.Errno
			many  int
		}{
			{"", 0, 2, 0}, {"a", 0, 2, 0}, {"abc", 0, 2, 0}, {"", 2, 2, 0}, {"a", 2, 2, 0}, {"abc", 2, 2, 0}, {"ab", 1, 2, 0}, {"ab", 3, 2, 0}, {"ab", math.MaxUint64, 2, 0}, {"a", 1, 2, 0},
			{"ab", 0, 0, 1}, {"cd", 0, 8, 1},
			{"", 0, 2, 1}, {"a", 0, 2, 1}, {"abc", 0, 2, 1}, {"", 2, 2, 1}, {"a", 2, 2, 1}, {"abc", 2, 2, 1}, {"cd", 1, 2, 1}, {"cd", 3, 2, 1}, {"cd", 1 << 32, 2, 1}, {"cd", 1<<32 + 2, 2, 1}, {"cd", math.MaxUint64, 2, 1}, {"a", 1, 2, 1},
			{"cd", 0, 8, 1},
		} {
			checkPush(t, q, x.value, x.flags, x.e)
			checkMany(t, q, x.many)
		}
		checkPop(t, q, "ab")
		checkEmpty(t, q)
		checkPush(t, q, "cd", 2, api.OK)
		checkPush(t, q, "ef", 2, api.OK)
		checkPop(t, q, "ef")
		checkEmpty(t, q)
	})
}

// A full queue: no value comes in by FlagAny, however often; by FlagThere the eldest one goes, of both kinds.
func TestP14_2Full(t *testing.T) {
	eachKind(t, func(t *testing.T, kind api.MapKind) {
		for _, sort := range sorts() {
			x := newBoth(t, kind, sort[0], sort[1])
			x.fill(0, sort[1])
			for n := range 3 {
				if e := x.push(valueOf(sort[0], sort[1]+n), 0); e != api.ErrFull {
					t.Fatalf("%v: %v", sort, e)
				}
				x.look()
			}
			x.all()
			if e := x.push(valueOf(sort[0], sort[1]), 2); e != api.OK {
				t.Fatalf("%v: %v", sort, e)
			}
			if e := x.push(valueOf(sort[0], 2*sort[1]), 0); e != api.ErrFull {
				t.Fatalf("%v: %v", sort, e)
			}
			x.look()
			x.drain()
		}
	})
}

// The same by hand.
func TestP14_2FullByHand(t *testing.T) {
	for kind, want := range map[api.MapKind][]string{api.MapQueue: {"c", "d", "e"}, api.MapStack: {"e", "d", "c"}} {
		q, _ := queue.New(specOf(kind, 1, 3))
		for _, value := range []string{"a", "b", "c"} {
			checkPush(t, q, value, 0, api.OK)
		}
		checkPush(t, q, "x", 0, api.ErrFull)
		checkPush(t, q, "d", 2, api.OK)
		checkPush(t, q, "y", 0, api.ErrFull)
		checkPush(t, q, "e", 2, api.OK)
		checkPush(t, q, "z", 0, api.ErrFull)
		for i, value := range want {
			checkMany(t, q, 3-i)
			checkPop(t, q, value)
		}
		checkEmpty(t, q)
	}
}

// As long as there is room, no value goes, by FlagThere neither: queues of each number of values, up to full.
func TestP14_2ThereWithRoom(t *testing.T) {
	eachKind(t, func(t *testing.T, kind api.MapKind) {
		for entries := 1; entries <= 12; entries++ {
			for many := range entries {
				for _, flag := range []uint64{0, 2} {
					x := newBoth(t, kind, 2, entries)
					x.fill(0, many)
					if e := x.push(row(2), flag); e != api.OK || len(x.values) != many+1 {
						t.Fatalf("%d of %d: %v, %d", many, entries, e, len(x.values))
					}
					x.drain()
				}
			}
		}
	})
}

// So many are pushed by FlagThere that all are replaced, then all again; behind each number of them all values are looked at.
func TestP14_2Replaced(t *testing.T) {
	eachKind(t, func(t *testing.T, kind api.MapKind) {
		for _, sort := range [][2]int{{1, 1}, {1, 2}, {3, 7}, {2, 32}, {1024, 3}} {
			for more := range 3*sort[1] + 2 {
				x := newBoth(t, kind, sort[0], sort[1])
				x.fill(0, sort[1])
				for n := range more {
					if e := x.push(valueOf(sort[0], sort[1]+n), 2); e != api.OK {
						t.Fatalf("%v: %d: %v", sort, n, e)
					}
				}
				x.push(row(sort[0]), 0)
				x.drain()
			}
		}
		for _, sort := range sorts() {
			x := newBoth(t, kind, sort[0], sort[1])
			x.fill(0, sort[1])
			for n := range 2*sort[1] + 1 {
				x.push(valueOf(sort[0], sort[1]+n), 2)
			}
			x.look()
			x.drain()
		}
	})
}

// A queue of one value has one, until it goes or is popped.
func TestP14_2OneValue(t *testing.T) {
	eachKind(t, func(t *testing.T, kind api.MapKind) {
		x := newBoth(t, kind, 2, 1)
		for n := range 40 {
			if e := x.push(valueOf(2, n), uint64(n%2)*2); e != api.OK {
				t.Fatalf("value %d: %v", n, e)
			}
			x.look()
			if e := x.push(valueOf(2, n+100), 0); e != api.ErrFull {
				t.Fatalf("value %d: %v", n, e)
			}
			x.look()
			for m := range n % 4 {
				x.push(valueOf(2, n+200+m), 2)
				x.look()
			}
			x.pop()
			x.look()
			x.pop()
		}
	})
}

// Values that are alike are as many.
func TestP14_2Alike(t *testing.T) {
	eachKind(t, func(t *testing.T, kind api.MapKind) {
		x := newBoth(t, kind, 3, 5)
		for n := range 12 {
			x.push([]byte("abc"), 2)
			x.push([]byte("abc"), uint64(n%2)*2)
			x.look()
		}
		if len(x.values) != 5 {
			t.Fatalf("%d values", len(x.values))
		}
		x.push([]byte{0, 0, 0}, 2)
		x.push([]byte("abc"), 2)
		x.push([]byte{0, 0, 0}, 2)
		x.drain()
	})
}

// Each byte that may be stands in a value as it was.
func TestP14_2EachByte(t *testing.T) {
	eachKind(t, func(t *testing.T, kind api.MapKind) {
		x := newBoth(t, kind, 1, 256)
		y := newBoth(t, kind, 256, 2)
		value := make([]byte, 256)
		for n := range 256 {
			x.push([]byte{byte(n)}, 0)
			value[n] = byte(255 - n)
		}
		y.push(value, 0)
		x.drain()
		y.drain()
	})
}

// Peek again and again tells the next one, which Pop tells then; of no value it tells none.
func TestP14_3PeekStays(t *testing.T) {
	eachKind(t, func(t *testing.T, kind api.MapKind) {
		for _, sort := range sorts() {
			many := min(sort[1], 40)
			x := newBoth(t, kind, sort[0], sort[1])
			for n := range many {
				x.push(valueOf(sort[0], n), 0)
				for range 5 {
					x.peek()
				}
			}
			for n := range many {
				for range 5 {
					x.peek()
				}
				told, e := x.q.Peek()
				x.hold("Peek", append([]byte(nil), told...), e)
				popped, f := x.q.Pop()
				if string(told) != string(popped) || e != f || e != api.OK {
					t.Fatalf("%v: %d: Peek tells %v, %v; Pop %v, %v", sort, n, told, e, popped, f)
				}
				x.drop(x.next())
				x.many()
			}
			x.drain()
		}
	})
}

// A queue without values, of one, of all but one, and full: what each call tells, and how many there are behind it.
func TestP14_3Many(t *testing.T) {
	eachKind(t, func(t *testing.T, kind api.MapKind) {
		for _, entries := range []int{1, 2, 3, 4, 16, 255, 256, 257, 1023, 1024} {
			for _, many := range []int{0, 1, entries / 2, entries - 1, entries} {
				for call := range 7 {
					x := newBoth(t, kind, 2, entries)
					x.fill(0, many)
					behind := many
					switch call {
					case 0:
						x.peek()
					case 1:
						x.pop()
						behind = max(0, many-1)
					case 2:
						x.push(row(2), 0)
						behind = min(entries, many+1)
					case 3:
						x.push(row(2), 2)
						behind = min(entries, many+1)
					case 4:
						x.push(row(2), 1)
					case 5:
						x.push(row(3), 2)
					case 6:
						x.push(nil, 0)
					}
					if n := x.q.Many(); n != behind {
						t.Fatalf("call %d of %d of %d: %d; want %d", call, many, entries, n, behind)
					}
					x.drain()
				}
			}
		}
	})
}

// The last one is popped, and others are pushed anew, often; wrong calls of an empty queue change nothing.
func TestP14_3Anew(t *testing.T) {
	eachKind(t, func(t *testing.T, kind api.MapKind) {
		for _, sort := range [][2]int{{1, 1}, {2, 2}, {3, 5}, {1, 64}} {
			x := newBoth(t, kind, sort[0], sort[1])
			for turn := range 150 {
				many := turn % (sort[1] + 1)
				x.fill(turn, many)
				x.look()
				x.drain()
				x.push(row(sort[0]+1), 0)
				x.push(row(sort[0]), 1)
				x.look()
			}
		}
	})
}

// Values are popped and others pushed by turns, far more than there is room for in all, so many at a time.
func TestP14_3ByTurns(t *testing.T) {
	eachKind(t, func(t *testing.T, kind api.MapKind) {
		for entries := 1; entries <= 9; entries++ {
			for start := range entries + 1 {
				for step := 1; step <= entries; step++ {
					x := newBoth(t, kind, 2, entries)
					x.fill(0, start)
					for turn := range 6 * entries {
						for n := range step {
							x.push(valueOf(2, 100*turn+n), uint64(turn%2)*2)
						}
						for range step {
							x.look()
							x.pop()
						}
					}
					x.drain()
				}
			}
		}
		x := newBoth(t, kind, 1, 1024)
		x.fill(0, 1023)
		for n := range 5000 {
			x.push(valueOf(1, n), 0)
			x.look()
			x.pop()
		}
		x.drain()
	})
}

// As many values as may be, of as many bytes as may be.
func TestP14_3FullOfAll(t *testing.T) {
	eachKind(t, func(t *testing.T, kind api.MapKind) {
		x := newBoth(t, kind, 1024, 1024)
		x.fill(0, 1024)
		x.push(row(1024), 0)
		x.push(row(1023), 2)
		x.push(row(1025), 2)
		x.all()
		for n := range 300 {
			x.push(valueOf(1024, 2000+n), 2)
			x.look()
		}
		for range 100 {
			x.pop()
		}
		x.fill(4000, 50)
		x.drain()
	})
}

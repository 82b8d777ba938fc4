package desc_test

import (
	"bytes"
	"math"
	"math/big"
	"math/rand"
	"reflect"
	"runtime"
	"slices"
	"testing"

	"hatchway/api"
	"hatchway/desc"
	"hatchway/kinds"
)

func TestP7_1Example(t *testing.T) {
	checkPut(t, api.Table{Provider: "a"}, []byte{131, 65, 'a', 128, 128})
	checkNone(t, []byte{131, 65, 'a', 128, 128, 0})
	checkNone(t, []byte{131, 65, 'a', 128})
	checkNone(t, []byte{131, 65, 'A', 128, 128})
}

// Each part, by bytes that are written out.
func TestP7_1ByHand(t *testing.T) {
	x := api.Table{Provider: "p.1",
		Types: []api.ProgType{
			{
				Name: "ab", Ctx: 24, Lo: -1, Hi: 300,
				Fields: []api.Field{{Off: 0, Size: 8, Kind: api.FieldEnd}, {Off: 8, Size: 8, Kind: api.FieldPacket}, {Off: 20, Size: 4, Kind: api.FieldScalar, Write: true}},
				Needs:  []api.Need{{Helper: 1, Major: 2, Minor: 3}, {Helper: 1 << 30, Major: 65535, Minor: 28}},
			},
			{Name: "b", Ctx: 256, Lo: math.MinInt64, Hi: math.MaxInt64},
		},
		Helpers: []api.Helper{
			{Id: 7, Major: 8, Minor: 9, Core: api.CoreRing, Args: []api.Arg{{Kind: api.ArgMap, Maps: []api.MapKind{api.MapRing}}, {Kind: api.ArgMem}, {Kind: api.ArgSize, Hi: 1024}}, Ret: api.Ret{Kind: api.RetScalar, Lo: -100}},
			{Id: 7, Major: 8, Minor: 10, Args: []api.Arg{{Kind: api.ArgScalar, Lo: -5, Hi: 4}, {Kind: api.ArgCtx}}, Ret: api.Ret{Kind: api.RetScratch, Size: 1024}},
			{Id: 8, Args: []api.Arg{{Kind: api.ArgMap, Maps: []api.MapKind{api.MapArray, api.MapTrie}}, {Kind: api.ArgOut}}, Ret: api.Ret{Kind: api.RetValue}},
		}}
	checkPut(t, x, slices.Concat(
		[]byte{131, 67, 'p', '.', '1'},
		[]byte{130},
		[]byte{134, 66, 'a', 'b', 48},
		[]byte{131, 132, 0, 16, 6, 0, 132, 16, 16, 4, 0, 132, 40, 8, 2, 2},
		[]byte{130, 131, 2, 4, 6, 131, 59, 128, 0, 0, 0, 58, 1, 255, 254, 56, 56},
		[]byte{1, 57, 2, 88},
		[]byte{134, 65, 'b', 57, 2, 0, 128, 128, 63, 255, 255, 255, 255, 255, 255, 255, 255, 63, 255, 255, 255, 255, 255, 255, 255, 254},
		[]byte{131},
		[]byte{134, 14, 16, 18, 14, 131, 132, 6, 0, 0, 129, 14, 132, 14, 0, 0, 128, 132, 18, 0, 57, 8, 0, 128, 132, 2, 56, 199, 0, 0},
		[]byte{134, 14, 16, 20, 0, 130, 132, 2, 9, 8, 128, 132, 4, 0, 0, 128, 132, 6, 0, 0, 57, 8, 0},
		[]byte{134, 16, 0, 0, 0, 130, 132, 6, 0, 0, 130, 2, 8, 132, 12, 0, 0, 128, 132, 4, 0, 0, 0},
	))
}

func TestP7_1Mixed(t *testing.T) {
	checkPut(t, mixed(), wantBytes(wantTree(mixed())))
	checkPut(t, least(), []byte{131, 65, '.', 129, 134, 65, '0', 16, 129, 132, 0, 2, 2, 0, 129, 131, 2, 0, 0, 0, 0, 129, 134, 2, 0, 0, 0, 129,
		132, 2, 63, 255, 255, 255, 255, 255, 255, 255, 255, 63, 255, 255, 255, 255, 255, 255, 255, 255, 128, 132, 6, 0, 0, 2})
}

// As many types, helpers, and in them as many things, as there may be, and next to that.
func TestP7_1HowMany(t *testing.T) {
	for _, types := range []int{0, 1, 15, 16, 17, 40} {
		for _, helpers := range []int{0, 1, 55, 56, 63, 64, 65, 300} {
			x := api.Table{Provider: "p"}
			for _, name := range names(types) {
				x.Types = append(x.Types, api.ProgType{Name: name, Ctx: 8})
			}
			for i := range helpers {
				x.Helpers = append(x.Helpers, own(api.CoreClock, 1+i, 0, 0))
			}
			if types <= 16 && helpers <= 64 {
				checkPut(t, x, wantBytes(wantTree(x)))
			} else {
				checkPutError(t, x, api.ErrLong)
			}
		}
	}
	for _, fields := range []int{31, 32, 33} {
		for _, needs := range []int{55, 56, 63, 64, 65} {
			x := longest()
			x.Types[15].Fields = slices.Repeat(x.Types[15].Fields, 2)[:fields]
			x.Types[15].Needs = slices.Repeat(x.Types[15].Needs, 2)[:needs]
			if fields <= 32 && needs <= 64 {
				checkPut(t, x, wantBytes(wantTree(x)))
			} else {
				checkPutError(t, x, api.ErrLong)
			}
		}
	}
}

// The greatest tables, with each kind of argument, have bytes too.
func TestP7_1Longest(t *testing.T) {
	b := wantBytes(wantTree(longest()))
	checkPut(t, longest(), b)
	if len(b) != 27837 { // 29 of the table's own, 1170 of each type, 142 of each helper
		t.Errorf("the longest table has %d bytes", len(b))
	}
	for i := range 256 {
		checkNone(t, append(slices.Clone(b), byte(i)))
	}
	for n := 0; n < len(b); n += 97 {
		checkNone(t, b[:n])
		checkNone(t, b[:len(b)-1-n/97])
	}
	x := longest()
	for at := range x.Helpers {
		args := []api.Arg{{Kind: api.ArgMap, Maps: []api.MapKind{1, 2, 3, 4, 5, 6, 7, 8}}, {Kind: api.ArgCtx}, {Kind: api.ArgScalar, Hi: int64(at)}, {Kind: api.ArgMem}, {Kind: api.ArgSize, Hi: 1024}}
		x.Helpers[at].Args = args
	}
	checkPut(t, x, wantBytes(wantTree(x)))
}

func TestP7_1PutErrors(t *testing.T) {
	seen := map[api.Errno]int{}
	for _, wrong := range wrongTables() {
		checkPutError(t, wrong.table, wrong.want)
		seen[wrong.want]++
	}
	for _, e := range []api.Errno{api.ErrArg, api.ErrLong, api.ErrField, api.ErrHelper, api.ErrReturn, api.ErrThere, api.ErrType, api.ErrMap, api.ErrKind} {
		if seen[e] == 0 {
			t.Errorf("no table of %v", e)
		}
	}
}

// Put tells what kinds.Table tells, whatever stands in a table.
func TestP7_1PutDrawnErrors(t *testing.T) {
	draw := rand.New(rand.NewSource(1))
	for range 3000 {
		x := drawnTable(t, draw, 3, 3)
		for _, y := range x.Types {
			for i := range y.Fields {
				y.Fields[i].Off += draw.Intn(60) / 59
			}
			for i := range y.Needs {
				y.Needs[i].Helper -= draw.Intn(60) / 59
			}
		}
		for i := range x.Helpers {
			x.Helpers[i].Core += api.CoreKind(draw.Intn(9) / 8)
			x.Helpers[i].Major += draw.Intn(9) / 8 << 16
		}
		if e := kinds.Table(x); e != api.OK {
			checkPutError(t, x, e)
		} else {
			checkPut(t, x, wantBytes(wantTree(x)))
		}
	}
}

// Lists without elements and nil ones are one.
func TestP7_1EmptyLists(t *testing.T) {
	x := api.Table{Provider: "a", Types: []api.ProgType{}, Helpers: []api.Helper{}}
	checkPut(t, x, []byte{131, 65, 'a', 128, 128})
	x.Types = append(x.Types, api.ProgType{Name: "t", Ctx: 8, Fields: []api.Field{}, Needs: []api.Need{}})
	x.Helpers = append(x.Helpers, api.Helper{Id: 1, Args: []api.Arg{}, Ret: api.Ret{Kind: api.RetScalar}})
	checkPut(t, x, []byte{131, 65, 'a', 129, 134, 65, 't', 16, 128, 128, 0, 0, 129, 134, 2, 0, 0, 0, 128, 132, 2, 0, 0, 0})
	x.Helpers[0].Args = append(x.Helpers[0].Args, api.Arg{Kind: api.ArgCtx, Maps: []api.MapKind{}})
	checkPut(t, x, []byte{131, 65, 'a', 129, 134, 65, 't', 16, 128, 128, 0, 0, 129, 134, 2, 0, 0, 0, 129, 132, 4, 0, 0, 128, 132, 2, 0, 0, 0})
}

// A flag is 0 or 1, and nothing else, not even what is one of these in so many bits.
func TestP7_1Flags(t *testing.T) {
	for _, n := range []int64{0, 1, -1, 2, 3, 28, 255, 256, 257, 1 << 16, 1<<16 + 1, 1 << 32, 1<<32 + 1, math.MinInt64, math.MinInt64 + 1, math.MaxInt64} {
		tree := wantTree(least()).([]any)
		field := tree[1].([]any)[0].([]any)[2].([]any)[0].([]any)
		field[3] = n
		b := wantBytes(tree)
		if there := checkGet(t, b); there != (n == 0 || n == 1) {
			t.Errorf("a flag of %d: %v", n, there)
		}
		x := least()
		x.Types[0].Fields[0].Write = n == 1
		if got, e := desc.Get(b); e == api.OK && !isSame(got, x) {
			t.Errorf("a flag of %d: %s", n, told(got))
		}
	}
}

// near are numbers of which none is n: next to it, at ends, and such as are n in so many bits.
func near(n int64) []int64 {
	all := []int64{n - 1, n + 1, -n, 0, 1, 2, 3, 9, 10, 11, -1, 255, 256, 257, 65535, 65536, 1 << 30, 1<<30 + 1, math.MinInt64, math.MaxInt64}
	for _, bits := range []int{8, 16, 31, 32, 63} {
		all = append(all, n+1<<bits, n-1<<bits)
	}
	return slices.DeleteFunc(all, func(other int64) bool { return other == n })
}

// variants goes through trees that are another one than this at one place.
func variants(tree any, visit func(any)) {
	visit([]any{tree})
	visit([]any{})
	switch x := tree.(type) {
	case int64:
		for _, n := range near(x) {
			visit(n)
		}
		visit("")
		visit(string(rune('0' + x&7)))
	case string:
		for _, s := range []string{"", "a", "b", x + "a", x + "\x00", "A", x[:len(x)-1], "aaaaaaaaaaaaaaaaaaaaaaaa", "aaaaaaaaaaaaaaaaaaaaaaaaa"} {
			visit(s)
		}
		visit(int64(0))
		visit([]any{x, x})
	case []any:
		visit(int64(len(x)))
		visit("")
		rowVariants(x, visit)
	}
}

// rowVariants goes through lists with a kid more, a kid less, two kids in another order, another kid.
func rowVariants(row []any, visit func(any)) {
	for at := range len(row) + 1 {
		for _, more := range []any{int64(0), int64(1), "", "a", []any{}, []any{int64(1)}} {
			visit(slices.Insert(slices.Clone(row), at, more))
		}
	}
	for at, kid := range row {
		visit(slices.Insert(slices.Clone(row), at, kid))
		visit(slices.Delete(slices.Clone(row), at, at+1))
		for other := range at {
			swapped := slices.Clone(row)
			swapped[at], swapped[other] = swapped[other], swapped[at]
			visit(swapped)
		}
		variants(kid, func(v any) {
			other := slices.Clone(row)
			other[at] = v
			visit(other)
		})
	}
}

func TestP7_1OnePlaceOff(t *testing.T) {
	for i, x := range []api.Table{{Provider: "a"}, least(), mixed()} {
		tables, none := 0, 0
		variants(wantTree(x), func(tree any) {
			if checkGet(t, wantBytes(tree)) {
				tables++
			} else {
				none++
			}
		})
		if tables == 0 || none < 30 {
			t.Errorf("%d: of the trees with one place off %d are tables, %d are not", i, tables, none)
		}
	}
}

// withNumbers is a tree whose numbers turn changes.
func withNumbers(tree any, turn func(n int64) int64) any {
	switch x := tree.(type) {
	case int64:
		return turn(x)
	case []any:
		return rowOf(x, func(kid any) any { return withNumbers(kid, turn) })
	}
	return tree
}

// Numbers that are a right part's in its bits, but too great for it, or below 0: each part by itself.
func TestP7_1TooGreat(t *testing.T) {
	tree := wantTree(mixed())
	numbers := 0
	withNumbers(tree, func(n int64) int64 { numbers++; return n })
	if numbers != 3*3+5*4+3*3+6*4+6*4+14*3+8 { // types, fields, needs; helpers, answers, arguments, Maps
		t.Errorf("%d numbers", numbers)
	}
	for place := range numbers {
		for bits := 8; bits < 64; bits++ {
			at := -1
			other := withNumbers(tree, func(n int64) int64 {
				at++
				if at == place {
					return n ^ 1<<bits
				}
				return n
			})
			checkGet(t, wantBytes(other))
		}
	}
}

func TestP7_1NoTable(t *testing.T) {
	checkNone(t, nil)
	checkNone(t, []byte{})
	for _, tree := range []any{int64(0), int64(3), "", "a", []any{}, []any{"a"}, []any{"a", []any{}}, []any{"a", []any{}, []any{}, []any{}}, []any{[]any{}, []any{}, "a"}, []any{int64(97), []any{}, []any{}}, []any{"a", "", ""}, []any{"a", int64(0), int64(0)}} {
		checkNone(t, wantBytes(tree))
	}
	deep := any(wantTree(api.Table{Provider: "a"}))
	for range 40 {
		deep = []any{deep}
		checkNone(t, wantBytes(deep))
	}
}

// A table's bytes cut anywhere, with bytes behind them, with others at one place.
func TestP7_1BytesOff(t *testing.T) {
	for i, x := range []api.Table{{Provider: "a"}, least(), mixed()} {
		b := wantBytes(wantTree(x))
		checkPut(t, x, b)
		checkNone(t, append(slices.Clone(b), b...))
		checkNone(t, append(slices.Clone(b), make([]byte, 1000)...))
		for n := range 256 {
			checkNone(t, append(slices.Clone(b), byte(n)))
		}
		for at := range b {
			checkNone(t, b[:at])
			checkGet(t, slices.Delete(slices.Clone(b), at, at+1))
			for n := at % (i + 1); n < 256; n += i + 1 {
				other := slices.Clone(b)
				other[at] = byte(n)
				checkGet(t, other)
			}
		}
	}
}

// withHeads is a tree's bytes, with the heads that turn makes of its own.
func withHeads(tree any, turn func(head []byte) []byte) []byte {
	b := wantBytes(tree)
	switch x := tree.(type) {
	case string:
		return append(turn(b[:len(b)-len(x)]), x...)
	case []any:
		b = turn(wantHead(2, big.NewInt(int64(len(x)))))
		for _, kid := range x {
			b = append(b, withHeads(kid, turn)...)
		}
		return b
	}
	return turn(b)
}

// Each head of a table's bytes, with a byte more than it needs, or more of them.
func TestP7_1LongHeads(t *testing.T) {
	for _, x := range []api.Table{{Provider: "a"}, least(), mixed()} {
		tree := wantTree(x)
		heads := 0
		right := withHeads(tree, func(head []byte) []byte { heads++; return head })
		if !bytes.Equal(right, wantBytes(tree)) {
			t.Errorf("%v by heads", first(right))
		}
		for place := range heads {
			for behind := 1; behind <= 8; behind++ {
				at := -1
				b := withHeads(tree, func(head []byte) []byte {
					at++
					if at == place {
						return longHead(head, behind)
					}
					return head
				})
				if !bytes.Equal(b, right) {
					checkNone(t, b)
				}
			}
		}
	}
}

// longHead is a head with so many bytes behind its first, or as many as it has, if these are more.
func longHead(head []byte, behind int) []byte {
	if len(head) > behind {
		return head
	}
	class, value := head[0]&192, head[1:]
	if len(head) == 1 {
		value = []byte{head[0] & 63}
	}
	return slices.Concat([]byte{class + 55 + byte(behind)}, make([]byte, behind-len(value)), value)
}

// goThrough goes through all rows of up to n bytes of these.
func goThrough(alphabet []byte, n int, look func([]byte)) {
	var deeper func(row []byte)
	deeper = func(row []byte) {
		look(row)
		if len(row) == n {
			return
		}
		for _, c := range alphabet {
			deeper(append(row[:len(row):len(row)], c))
		}
	}
	deeper(nil)
}

func TestP7_1AllShortBytes(t *testing.T) {
	tables := 0
	look := func(b []byte) {
		if checkGet(t, b) {
			tables++
		}
	}
	goThrough([]byte{0, 2, 64, 65, 66, 'a', 'b', '.', 128, 129, 130, 131, 132, 192}, 5, look)
	if tables != 3 {
		t.Errorf("%d tables of five bytes", tables)
	}
	tables = 0
	goThrough([]byte{65, 66, 'a', 128, 129, 131}, 7, look)
	if tables != 1+1 {
		t.Errorf("%d tables of up to seven bytes", tables)
	}
}

func TestP7_1DrawnBytes(t *testing.T) {
	draw := rand.New(rand.NewSource(2))
	for range 20000 {
		b := make([]byte, draw.Intn(60))
		draw.Read(b)
		checkGet(t, b)
		checkGet(t, append([]byte{131, 65, 'a'}, b...))
		checkGet(t, append([]byte{131, 65, 'a', 128, 129, 134, 2, 4, 6}, b...))
	}
}

// However many bytes there are, what is no table's takes no more memory than a table.
func TestP7_1ManyBytes(t *testing.T) {
	const many = 1 << 26
	kids := append([]byte{187, 4, 0, 0, 0}, make([]byte, many)...) // a list of as many numbers 0
	checkNone(t, kids)
	text := slices.Concat([]byte{131, 123, 4, 0, 0, 0}, bytes.Repeat([]byte{'a'}, many), []byte{128, 128})
	var before, behind runtime.MemStats
	runtime.ReadMemStats(&before)
	for range 10 {
		checkNone(t, kids)
		checkNone(t, text)
		checkNone(t, text[6:])
	}
	runtime.ReadMemStats(&behind)
	if taken := behind.TotalAlloc - before.TotalAlloc; taken > many {
		t.Errorf("%d bytes of memory were taken", taken)
	}
}

// What Put is given stays as it is, and nothing of it is kept.
func TestP7_1PutNewMemory(t *testing.T) {
	draw := rand.New(rand.NewSource(3))
	for range 200 {
		x := drawnTable(t, draw, 4, 8)
		before := copied(x)
		one, _ := desc.Put(x)
		other, _ := desc.Put(x)
		clear(one[:cap(one)])
		if !isSame(x, before) || !bytes.Equal(other, wantBytes(wantTree(before))) {
			t.Fatalf("Put's answers share memory with %s, or with each other", told(before))
		}
		for _, spoil := range spoils(&x) {
			spoil()
		}
		if !bytes.Equal(other, wantBytes(wantTree(before))) {
			t.Fatalf("Put of %s keeps its argument", told(before))
		}
	}
}

// spoils are calls of which each changes what one of a table's lists has, and what may lie behind it.
func spoils(x *api.Table) []func() {
	all := []func(){spoil(x.Types), spoil(x.Helpers)}
	for _, y := range x.Types {
		all = append(all, spoil(y.Fields), spoil(y.Needs))
	}
	for _, h := range x.Helpers {
		all = append(all, spoil(h.Args))
		for _, a := range h.Args {
			all = append(all, spoil(a.Maps))
		}
	}
	return all
}

func spoil[T any](row []T) func() {
	return func() {
		clear(append(row, make([]T, 3)...))
		clear(row)
	}
}

// What Get tells lies apart from its bytes, from what it told before, and each of its lists from the others.
func TestP7_1GetNewMemory(t *testing.T) {
	draw := rand.New(rand.NewSource(4))
	for range 100 {
		x := drawnTable(t, draw, 3, 4)
		want := wantBytes(wantTree(x))
		b := slices.Clone(want)
		got, _ := desc.Get(b)
		other, _ := desc.Get(b)
		for at := range spoils(&got) {
			one, _ := desc.Get(b)
			apart := copied(one)
			spoils(&one)[at]()
			spoils(&apart)[at]()
			if !isSame(one, apart) {
				t.Fatalf("list %d of what %v is shares memory with another one", at, first(want))
			}
			if !bytes.Equal(b, want) || !isSame(other, x) {
				t.Fatalf("list %d of what %v is shares memory with these bytes, or with another answer", at, first(want))
			}
		}
		clear(b)
		if !isSame(got, x) {
			t.Fatalf("Get of %v keeps its argument", first(want))
		}
	}
}

// One thing is answered alike each time.
func TestP7_1Alike(t *testing.T) {
	for _, x := range []api.Table{{Provider: "a"}, least(), mixed(), longest()} {
		b, _ := desc.Put(x)
		one, _ := desc.Get(b)
		for range 20 {
			other, e := desc.Get(b)
			again, f := desc.Put(other)
			if e != api.OK || f != api.OK || !reflect.DeepEqual(one, other) || !bytes.Equal(again, b) {
				t.Fatalf("%v is told in two ways", first(b))
			}
		}
	}
}

func TestP7_2PutAndGot(t *testing.T) {
	draw := rand.New(rand.NewSource(5))
	for range 1500 {
		x := drawnTable(t, draw, 5, 9)
		checkPut(t, x, wantBytes(wantTree(x)))
	}
	for range 40 {
		x := drawnTable(t, draw, 16, 64)
		checkPut(t, x, wantBytes(wantTree(x)))
	}
}

// What is got of any bytes is right, and put as just these.
func TestP7_2GotAndPut(t *testing.T) {
	draw := rand.New(rand.NewSource(6))
	tables := 0
	for range 1000 {
		b := wantBytes(wantTree(drawnTable(t, draw, 2, 3)))
		for range 8 {
			other := slices.Clone(b)
			for range 1 + draw.Intn(2) {
				at := draw.Intn(len(b))
				other[at] = []byte{byte(draw.Intn(256)), b[at] ^ 1<<draw.Intn(8), b[draw.Intn(len(b))]}[draw.Intn(3)]
			}
			got, e := desc.Get(other)
			if e != api.OK {
				checkGet(t, other)
				continue
			}
			tables++
			if again, f := desc.Put(got); kinds.Table(got) != api.OK || f != api.OK || !bytes.Equal(again, other) {
				t.Errorf("%v is got, and put as %v, %v", first(other), first(again), f)
			}
		}
	}
	if tables < 500 {
		t.Errorf("%d of the bytes are tables", tables)
	}
}

func TestP7_2NoBeginning(t *testing.T) {
	draw := rand.New(rand.NewSource(7))
	var all [][]byte
	for range 3000 {
		b, e := desc.Put(drawnTable(t, draw, 1, 1))
		if e != api.OK {
			t.Fatal(e)
		}
		all = append(all, b)
	}
	for _, name := range []string{"a", "aa", "b", "ab", "a.b"} {
		b, _ := desc.Put(api.Table{Provider: name})
		all = append(all, b)
	}
	slices.SortFunc(all, bytes.Compare)
	all = slices.CompactFunc(all, bytes.Equal)
	if len(all) < 2000 {
		t.Errorf("%d tables", len(all))
	}
	for i := 1; i < len(all); i++ { // a beginning stands next to what it begins, or to another one that it begins
		if bytes.HasPrefix(all[i], all[i-1]) {
			t.Errorf("%v begins %v", first(all[i-1]), first(all[i]))
		}
	}
}

package wire

import (
	"bytes"
	"math"
	"math/big"
	"math/rand"
	"reflect"
	"runtime"
	"runtime/debug"
	"slices"
	"strings"
	"testing"

	"hatchway/api"
)

// wantHead is the chapter's words on heads, by numbers without bounds.
func wantHead(class int64, v *big.Int) []byte {
	if v.Cmp(big.NewInt(56)) < 0 {
		return []byte{byte(64*class + v.Int64())}
	}
	behind := v.Bytes() // the fewest, the highest first
	return append([]byte{byte(64*class + 55 + int64(len(behind)))}, behind...)
}

// wantBytes is the chapter's words on a right tree's bytes.
func wantBytes(t Tree) []byte {
	switch t.Kind {
	case Number:
		n := big.NewInt(t.Num)
		n.Mul(n, big.NewInt(2))
		if t.Num < 0 {
			n.Neg(n).Sub(n, big.NewInt(1))
		}
		return wantHead(0, n)
	case Bytes:
		return append(wantHead(1, big.NewInt(int64(len(t.Bytes)))), t.Bytes...)
	}
	b := wantHead(2, big.NewInt(int64(len(t.Kids))))
	for _, kid := range t.Kids {
		b = append(b, wantBytes(kid)...)
	}
	return b
}

// wantTree is the tree whose bytes b begins with, one in so many lists, and what is left; by trying each way to write the head.
func wantTree(b []byte, inside int) (Tree, []byte, bool) {
	for behind := range 9 {
		if len(b) < 1+behind {
			break
		}
		v := new(big.Int).SetBytes(b[1 : 1+behind])
		class := int64(b[0] / 64)
		if behind == 0 {
			v.SetInt64(int64(b[0] % 64))
		}
		if class > 2 || !bytes.Equal(wantHead(class, v), b[:1+behind]) {
			continue
		}
		return wantRest(class, v, b[1+behind:], inside)
	}
	return Tree{}, nil, false
}

func wantRest(class int64, v *big.Int, b []byte, inside int) (Tree, []byte, bool) {
	if class == 0 {
		n := new(big.Int).Rsh(v, 1)
		if v.Bit(0) == 1 {
			n.Add(n, big.NewInt(1)).Neg(n)
		}
		return Tree{Kind: Number, Num: n.Int64()}, b, n.IsInt64()
	}
	if v.Cmp(big.NewInt(int64(len(b)))) > 0 { // as many bytes, or kids of a byte at least, are not there
		return Tree{}, nil, false
	}
	if class == 1 {
		return Tree{Kind: Bytes, Bytes: append([]byte(nil), b[:v.Int64()]...)}, b[v.Int64():], true
	}
	t := Tree{Kind: List}
	for range v.Int64() {
		kid, left, ok := wantTree(b, inside+1)
		if !ok {
			return Tree{}, nil, false
		}
		t.Kids, b = append(t.Kids, kid), left
	}
	return t, b, inside < 16
}

// checkRight: this tree is right, has these bytes, and is what they are.
func checkRight(t *testing.T, tree Tree, want []byte) {
	t.Helper()
	if !Right(tree) {
		t.Errorf("a tree of %d bytes, first %v, is not right", len(want), want[:min(12, len(want))])
	}
	if b, e := Put(tree); e != api.OK || !bytes.Equal(b, want) {
		t.Errorf("Put: %d bytes, first %v, %v; want %d, first %v", len(b), b[:min(12, len(b))], e, len(want), want[:min(12, len(want))])
	}
	if n := Size(tree); n != len(want) {
		t.Errorf("Size = %d, want %d", n, len(want))
	}
	if got, e := Get(want); e != api.OK || !reflect.DeepEqual(got, tree) {
		t.Errorf("Get of %d bytes, first %v: %v, not the tree", len(want), want[:min(12, len(want))], e)
	}
}

// checkPutError: this tree has no bytes, since that error holds.
func checkPutError(t *testing.T, tree Tree, want api.Errno) {
	t.Helper()
	if b, e := Put(tree); e != want || b != nil {
		t.Errorf("Put: %d bytes, %v, want none and %v", len(b), e, want)
	}
	if n := Size(tree); n != 0 {
		t.Errorf("Size = %d, want 0", n)
	}
	if right := want != api.ErrArg; Right(tree) != right {
		t.Errorf("Right = %v, want %v", !right, right)
	}
}

// checkNone: these are no tree's bytes.
func checkNone(t *testing.T, b []byte) {
	t.Helper()
	if tree, e := Get(b); e != api.ErrShape || !reflect.DeepEqual(tree, Tree{}) {
		t.Errorf("Get of %d bytes, first %v: a tree of kind %d, %v, want none", len(b), b[:min(12, len(b))], tree.Kind, e)
	}
}

func number(n int64) Tree       { return Tree{Kind: Number, Num: n} }
func text(b string) Tree        { return Tree{Kind: Bytes, Bytes: append([]byte(nil), b...)} }
func list(kids ...Tree) Tree    { return Tree{Kind: List, Kids: kids} }
func repeat(t Tree, n int) Tree { return list(slices.Repeat([]Tree{t}, n)...) }

// within is a tree in so many lists, each of which has this many kids, the tree's list at that place among them.
func within(t Tree, deep, kids, at int) Tree {
	for range deep {
		row := slices.Repeat([]Tree{number(7)}, kids)
		row[at] = t
		t = list(row...)
	}
	return t
}

// edgeNumbers are those at each end of a head's bytes, and next to them.
func edgeNumbers() []int64 {
	all := []int64{math.MinInt64, math.MinInt64 + 1, math.MaxInt64, math.MaxInt64 - 1}
	for shift := range 63 {
		for _, near := range []int64{-2, -1, 0, 1, 2} {
			all = append(all, 1<<shift+near, -(1<<shift)+near)
		}
	}
	for n := int64(-300); n <= 300; n++ {
		all = append(all, n)
	}
	return all
}

// wrongTrees are of no kind, or have a part that their kind does not name.
func wrongTrees() []Tree {
	all := []Tree{{}, {Num: 1}, {Bytes: []byte{1}}, {Kids: []Tree{number(1)}}}
	for kind := 4; kind < 256; kind++ {
		all = append(all, Tree{Kind: Kind(kind)}, Tree{Kind: Kind(kind), Num: 1}, Tree{Kind: Kind(kind), Bytes: []byte{1}}, Tree{Kind: Kind(kind), Kids: []Tree{number(1)}})
	}
	one, two := []byte{0}, []Tree{number(1)}
	return append(all,
		Tree{Kind: Number, Bytes: one}, Tree{Kind: Number, Num: 5, Bytes: one}, Tree{Kind: Number, Kids: two}, Tree{Kind: Number, Num: 5, Kids: two}, Tree{Kind: Number, Bytes: one, Kids: two},
		Tree{Kind: Bytes, Num: 1}, Tree{Kind: Bytes, Num: -1, Bytes: one}, Tree{Kind: Bytes, Kids: two}, Tree{Kind: Bytes, Bytes: one, Kids: two}, Tree{Kind: Bytes, Num: math.MinInt64, Kids: two},
		Tree{Kind: List, Num: 1}, Tree{Kind: List, Num: -1, Kids: two}, Tree{Kind: List, Bytes: one}, Tree{Kind: List, Bytes: one, Kids: two}, Tree{Kind: List, Num: math.MaxInt64, Bytes: one},
		Tree{Kind: Number, Kids: []Tree{{}}}, Tree{Kind: Bytes, Kids: []Tree{list()}},
	)
}

// drawnTree is one of any kind, at most so deep.
func drawnTree(draw *rand.Rand, deep int) Tree {
	kind := draw.Intn(5)
	switch {
	case kind < 2:
		return number(int64(draw.Uint64()) >> draw.Intn(64))
	case kind < 3 || deep == 0:
		b := make([]byte, draw.Intn(4)*draw.Intn(40))
		draw.Read(b)
		return text(string(b))
	}
	t := Tree{Kind: List}
	for range draw.Intn(7) {
		t.Kids = append(t.Kids, drawnTree(draw, deep-1))
	}
	return t
}

// cloned is the same tree in other memory.
func cloned(t Tree) Tree {
	t.Bytes = append([]byte(nil), t.Bytes...)
	kids := t.Kids
	t.Kids = nil
	for _, kid := range kids {
		t.Kids = append(t.Kids, cloned(kid))
	}
	return t
}

// wipe changes all that a tree has.
func wipe(t *Tree) {
	for i := range t.Kids {
		wipe(&t.Kids[i])
		t.Kids[i] = Tree{Kind: 99}
	}
	for i := range t.Bytes {
		t.Bytes[i]++
	}
	*t = Tree{}
}

func TestP5_1Of(t *testing.T) {
	for _, n := range edgeNumbers() {
		if got := Of(n); !reflect.DeepEqual(got, Tree{Kind: Number, Num: n}) || !Right(got) {
			t.Errorf("Of(%d) = %v", n, got)
		}
	}
}

func TestP5_1Text(t *testing.T) {
	if got := Text(""); !reflect.DeepEqual(got, Tree{Kind: Bytes}) || !Right(got) {
		t.Errorf("Text of nothing: %v", got)
	}
	for _, s := range []string{"a", "ab", "\x00", "\x00\xff\xfe", "r\u00e4um", "\n", strings.Repeat("x", 55), strings.Repeat("x", 56), strings.Repeat("\x80", 70000)} {
		if got := Text(s); !reflect.DeepEqual(got, Tree{Kind: Bytes, Bytes: []byte(s)}) || !Right(got) {
			t.Errorf("Text of %d bytes: %d bytes, kind %d", len(s), len(got.Bytes), got.Kind)
		}
	}
	one, other := Text("abc"), Text("abc")
	clear(one.Bytes)
	if string(other.Bytes) != "abc" {
		t.Error("Text's answers share memory")
	}
}

func TestP5_1Row(t *testing.T) {
	for _, got := range []Tree{Row(), Row(nil...), Row([]Tree{}...)} {
		if !reflect.DeepEqual(got, Tree{Kind: List}) || !Right(got) {
			t.Errorf("Row of nothing: %v", got)
		}
	}
	draw := rand.New(rand.NewSource(1))
	for range 500 {
		kids := make([]Tree, 1+draw.Intn(20))
		for i := range kids {
			kids[i] = drawnTree(draw, 4)
		}
		if got := Row(kids...); !reflect.DeepEqual(got, Tree{Kind: List, Kids: kids}) || !Right(got) {
			t.Fatalf("Row of %v = %v", kids, got)
		}
	}
}

// A row of trees that are not right is the list of them, and not right.
func TestP5_1RowOfWrongTrees(t *testing.T) {
	for _, wrong := range wrongTrees() {
		kids := []Tree{number(1), wrong, list(wrong)}
		if got := Row(kids...); !reflect.DeepEqual(got, Tree{Kind: List, Kids: kids}) || Right(got) {
			t.Errorf("Row of %v = %v", kids, got)
		}
	}
}

// What Row is given stays as it is, and nothing of it is kept; no two rows of one answer share memory.
func TestP5_1RowNewMemory(t *testing.T) {
	draw := rand.New(rand.NewSource(2))
	shared := list(text("shared"), list(number(1), text("deep down")))
	wrong := Tree{Kind: Number, Bytes: []byte{1}, Kids: []Tree{{Kind: Bytes, Bytes: []byte{2}, Kids: []Tree{text("x")}}}}
	for range 200 {
		kids := []Tree{drawnTree(draw, 5), shared, list(shared, shared), wrong, drawnTree(draw, 3)}
		before := cloned(list(kids...))
		one, other := Row(kids...), Row(kids...)
		wipe(&one.Kids[1])
		wipe(&one.Kids[2].Kids[0])
		if !reflect.DeepEqual(one.Kids[2].Kids[1], before.Kids[1]) {
			t.Fatal("two rows of an answer share memory")
		}
		wipe(&one)
		if !reflect.DeepEqual(list(kids...), before) || !reflect.DeepEqual(other, before) {
			t.Fatal("Row's answers share memory with its argument, or with each other")
		}
		for i := range kids {
			if i != 1 && i != 3 {
				wipe(&kids[i])
			}
			kids[i] = Tree{}
		}
		if !reflect.DeepEqual(other, before) {
			t.Fatal("Row keeps its argument")
		}
		shared = list(text("shared"), list(number(1), text("deep down")))
	}
}

func TestP5_1RightByKinds(t *testing.T) {
	for kind := range 256 {
		if got := Right(Tree{Kind: Kind(kind)}); got != (kind >= 1 && kind <= 3) {
			t.Errorf("Right of kind %d alone = %v", kind, got)
		}
		for parts := 1; parts < 8; parts++ {
			tree, only := Tree{Kind: Kind(kind)}, 0
			if parts&1 != 0 {
				tree.Num, only = -1, 1
			}
			if parts&2 != 0 {
				tree.Bytes, only = []byte{0}, 2
			}
			if parts&4 != 0 {
				tree.Kids, only = []Tree{number(0)}, 3
			}
			want := kind == only && parts&(parts-1) == 0
			if got := Right(tree); got != want {
				t.Errorf("Right(%v) = %v", tree, got)
			}
		}
	}
	for _, tree := range []Tree{{Kind: Number, Num: math.MinInt64}, {Kind: Number, Num: math.MaxInt64}, {Kind: Bytes, Bytes: make([]byte, 1000)}, {Kind: List, Kids: make([]Tree, 0, 5)}} {
		if !Right(tree) {
			t.Errorf("Right of kind %d is false", tree.Kind)
		}
	}
}

// Parts that are there, but have no length, are none.
func TestP5_1RightEmptyParts(t *testing.T) {
	for _, c := range []struct {
		tree Tree
		want byte
	}{
		{Tree{Kind: Number, Bytes: []byte{}, Kids: []Tree{}}, 0},
		{Tree{Kind: Bytes, Bytes: []byte{}, Kids: []Tree{}}, 64},
		{Tree{Kind: List, Bytes: []byte{}, Kids: []Tree{}}, 128},
		{Tree{Kind: Number, Bytes: make([]byte, 3)[:0], Kids: make([]Tree, 3)[:0]}, 0}, // behind their length stand wrong trees
		{Tree{Kind: List, Bytes: make([]byte, 3)[:0], Kids: make([]Tree, 3)[:0]}, 128},
	} {
		for deep := range 4 {
			tree := within(c.tree, deep, 1, 0)
			want := append(bytes.Repeat([]byte{129}, deep), c.want)
			b, e := Put(tree)
			if !Right(tree) || e != api.OK || !bytes.Equal(b, want) || Size(tree) != len(want) {
				t.Errorf("%v, %d deep: right is %v, %v, %v", c.tree, deep, Right(tree), b, e)
			}
		}
	}
}

// However deep a kid that is not right stands, and wherever among its brothers, the tree is not right.
func TestP5_1RightWrongKid(t *testing.T) {
	for i, wrong := range wrongTrees() {
		for _, deep := range []int{0, 1, 2, 3, 15, 16, 17, 18, 40} {
			for _, at := range []int{0, 1, 2} {
				tree := within(wrong, deep, 3, at)
				if Right(tree) {
					t.Errorf("wrong tree %d, %d deep, at %d: right", i, deep, at)
				}
			}
		}
	}
	for _, kids := range []int{55, 56, 300} {
		for at := range kids {
			if Right(within(Tree{}, 1, kids, at)) || Right(within(within(Tree{}, 1, kids, at), 1, kids, kids-1)) {
				t.Errorf("of %d kids the one at %d is not right, but the tree is", kids, at)
			}
		}
	}
}

// A tree may be deeper than calls in calls can be, of which the test allows fewer.
func TestP5_1RightDeepDown(t *testing.T) {
	const deep = 200000
	defer debug.SetMaxStack(debug.SetMaxStack(1 << 23))
	for _, c := range []struct {
		tree Tree
		want api.Errno
	}{{number(1), api.ErrLong}, {list(), api.ErrLong}, {Tree{}, api.ErrArg}, {Tree{Kind: List, Num: 1}, api.ErrArg}} {
		tree := within(c.tree, deep, 1, 0)
		checkPutError(t, tree, c.want)
		row := Row(tree)
		levels := 0
		for ; len(row.Kids) == 1; levels++ {
			row = row.Kids[0]
		}
		if levels != deep+1 || !reflect.DeepEqual(row, c.tree) {
			t.Errorf("Row of a tree %d deep: %d levels", deep, levels)
		}
	}
}

// One row may stand in many lists: it is looked into once, else this would not end.
func TestP5_1RightSharedRows(t *testing.T) {
	for _, c := range []struct {
		tree Tree
		want api.Errno
	}{{number(1), api.ErrLong}, {Tree{}, api.ErrArg}, {Tree{Kind: Bytes, Num: 1}, api.ErrArg}} {
		tree := c.tree
		for range 200 {
			tree = list(tree, tree, tree)
		}
		checkPutError(t, tree, c.want)
	}
	both := []Tree{list(), number(1)} // a row, and less of it, begin at one place
	checkPutError(t, list(list(both[:1]...), Tree{Kind: List, Kids: []Tree{list(both...), {}}}), api.ErrArg)
	tree := list(list(both[:1]...), list(both...), list(both[:0]...), list(both[1:]...))
	checkRight(t, cloned(tree), []byte{132, 129, 128, 130, 128, 2, 128, 129, 2})
}

// A list that is in itself is no tree; the calls end all the same.
func TestP5_1InItself(t *testing.T) {
	one := make([]Tree, 1)
	one[0] = list(one...)
	many := slices.Repeat([]Tree{number(1)}, 5)
	many[2] = list(list(list(text("x"), Tree{Kind: List, Kids: many})))
	tail := make([]Tree, 3)
	for i := range tail {
		tail[i] = Tree{Kind: List, Kids: tail[(i+1)%3:]}
	}
	for i, row := range [][]Tree{one, many, tail} {
		checkPutError(t, list(row...), api.ErrArg)
		checkPutError(t, Tree{Kind: List, Kids: row}, api.ErrArg)
		checkPutError(t, list(list(number(1), Tree{Kind: List, Kids: row})), api.ErrArg)
		for _, kids := range [][]Tree{row, {number(1), {Kind: List, Kids: row}}, {{Kind: Number, Kids: row}}} {
			if got := Row(kids...); !reflect.DeepEqual(got, Tree{}) {
				t.Errorf("%d: Row of a list in itself has kind %d and %d kids", i, got.Kind, len(got.Kids))
			}
		}
	}
}

func TestP5_2Numbers(t *testing.T) {
	for _, c := range []struct {
		n    int64
		want []byte
	}{
		{0, []byte{0}}, {-1, []byte{1}}, {1, []byte{2}}, {-2, []byte{3}}, {3, []byte{6}}, {-3, []byte{5}},
		{27, []byte{54}}, {-28, []byte{55}}, {28, []byte{56, 56}}, {-29, []byte{56, 57}},
		{127, []byte{56, 254}}, {-128, []byte{56, 255}}, {128, []byte{57, 1, 0}}, {-129, []byte{57, 1, 1}},
		{1<<15 - 1, []byte{57, 255, 254}}, {-1 << 15, []byte{57, 255, 255}}, {1 << 15, []byte{58, 1, 0, 0}}, {-1<<15 - 1, []byte{58, 1, 0, 1}},
		{1<<23 - 1, []byte{58, 255, 255, 254}}, {-1 << 23, []byte{58, 255, 255, 255}}, {1 << 23, []byte{59, 1, 0, 0, 0}}, {-1<<23 - 1, []byte{59, 1, 0, 0, 1}},
		{1<<31 - 1, []byte{59, 255, 255, 255, 254}}, {-1 << 31, []byte{59, 255, 255, 255, 255}}, {1 << 31, []byte{60, 1, 0, 0, 0, 0}}, {-1<<31 - 1, []byte{60, 1, 0, 0, 0, 1}},
		{1<<39 - 1, []byte{60, 255, 255, 255, 255, 254}}, {-1 << 39, []byte{60, 255, 255, 255, 255, 255}}, {1 << 39, []byte{61, 1, 0, 0, 0, 0, 0}},
		{1<<47 - 1, []byte{61, 255, 255, 255, 255, 255, 254}}, {-1 << 47, []byte{61, 255, 255, 255, 255, 255, 255}}, {1 << 47, []byte{62, 1, 0, 0, 0, 0, 0, 0}},
		{1<<55 - 1, []byte{62, 255, 255, 255, 255, 255, 255, 254}}, {-1 << 55, []byte{62, 255, 255, 255, 255, 255, 255, 255}}, {1 << 55, []byte{63, 1, 0, 0, 0, 0, 0, 0, 0}}, {-1<<55 - 1, []byte{63, 1, 0, 0, 0, 0, 0, 0, 1}},
		{0x0123456789abcdef, []byte{63, 0x02, 0x46, 0x8a, 0xcf, 0x13, 0x57, 0x9b, 0xde}},
		{math.MaxInt64, []byte{63, 255, 255, 255, 255, 255, 255, 255, 254}}, {math.MinInt64, []byte{63, 255, 255, 255, 255, 255, 255, 255, 255}},
	} {
		checkRight(t, number(c.n), c.want)
		checkRight(t, Of(c.n), c.want)
	}
	for _, n := range edgeNumbers() {
		checkRight(t, number(n), wantBytes(number(n)))
	}
}

func TestP5_2Bytes(t *testing.T) {
	checkRight(t, Text(""), []byte{64})
	checkRight(t, Text("ab"), []byte{66, 'a', 'b'})
	for _, c := range []struct {
		n    int
		head []byte
	}{
		{1, []byte{65}}, {54, []byte{118}}, {55, []byte{119}}, {56, []byte{120, 56}}, {57, []byte{120, 57}}, {255, []byte{120, 255}},
		{256, []byte{121, 1, 0}}, {257, []byte{121, 1, 1}}, {300, []byte{121, 1, 44}}, {65535, []byte{121, 255, 255}}, {65536, []byte{122, 1, 0, 0}}, {1<<24 + 2, []byte{123, 1, 0, 0, 2}},
	} {
		b := make([]byte, c.n)
		rand.New(rand.NewSource(int64(c.n))).Read(b)
		checkRight(t, Tree{Kind: Bytes, Bytes: b}, append(c.head, b...))
	}
	for n := range 600 {
		tree := text(strings.Repeat("\x00\xff", n)[:n])
		checkRight(t, tree, wantBytes(tree))
	}
}

func TestP5_2Lists(t *testing.T) {
	checkRight(t, Row(), []byte{128})
	checkRight(t, Row(Of(0), Text("")), []byte{130, 0, 64})
	checkRight(t, Row(Of(1), Text("x"), Row(Row())), []byte{131, 2, 65, 'x', 129, 128})
	for _, c := range []struct {
		n    int
		head []byte
	}{
		{1, []byte{129}}, {54, []byte{182}}, {55, []byte{183}}, {56, []byte{184, 56}}, {57, []byte{184, 57}}, {255, []byte{184, 255}},
		{256, []byte{185, 1, 0}}, {257, []byte{185, 1, 1}}, {65535, []byte{185, 255, 255}}, {65536, []byte{186, 1, 0, 0}},
	} {
		checkRight(t, repeat(number(-1), c.n), append(slices.Clone(c.head), bytes.Repeat([]byte{1}, c.n)...))
		checkRight(t, repeat(list(), c.n), append(slices.Clone(c.head), bytes.Repeat([]byte{128}, c.n)...))
		checkRight(t, repeat(text("ab"), c.n), append(slices.Clone(c.head), bytes.Repeat([]byte{66, 'a', 'b'}, c.n)...))
	}
}

// A list is one deeper than its deepest kid, wherever that stands; one without kids is 1 deep.
func TestP5_2Deep(t *testing.T) {
	for _, inner := range []struct {
		tree Tree
		deep int
	}{{number(1), 0}, {text("a"), 0}, {text(""), 0}, {list(), 1}, {list(number(1)), 1}, {list(list(), list(list())), 3}, {list(list(list()), list()), 3}} {
		for deep := range 25 {
			for _, c := range []struct{ kids, at int }{{1, 0}, {3, 0}, {3, 1}, {3, 2}} {
				tree := within(inner.tree, deep, c.kids, c.at)
				if deep+inner.deep <= 16 {
					checkRight(t, tree, wantBytes(tree))
				} else {
					checkPutError(t, tree, api.ErrLong)
					checkNone(t, wantBytes(tree))
				}
			}
		}
	}
	deepest := within(list(), 15, 1, 0)
	brothers := list(deepest.Kids[0], number(1), deepest.Kids[0])
	checkRight(t, brothers, wantBytes(brothers))
	checkPutError(t, list(number(1), deepest, number(1)), api.ErrLong)
}

func TestP5_2PutErrors(t *testing.T) {
	for _, wrong := range wrongTrees() {
		for _, deep := range []int{0, 1, 2, 15, 16, 17, 18, 100} { // ErrArg is first, where a tree is too deep too
			checkPutError(t, within(wrong, deep, 2, deep%2), api.ErrArg)
		}
	}
	long := within(number(1), 30, 1, 0)
	checkPutError(t, long, api.ErrLong)
	checkPutError(t, list(long, Tree{}), api.ErrArg)
	checkPutError(t, list(Tree{}, long), api.ErrArg)
	checkPutError(t, Tree{Kind: List, Num: 1, Kids: long.Kids}, api.ErrArg)
	checkPutError(t, Tree{Kind: Number, Kids: long.Kids}, api.ErrArg)
}

func TestP5_2NewMemory(t *testing.T) {
	draw := rand.New(rand.NewSource(3))
	for range 300 {
		tree := drawnTree(draw, 5)
		before := cloned(tree)
		one, _ := Put(tree)
		other, _ := Put(tree)
		Size(tree)
		Right(tree)
		clear(one)
		if !reflect.DeepEqual(tree, before) || !bytes.Equal(other, wantBytes(before)) {
			t.Fatalf("Put's answers share memory with %v, or with each other", before)
		}
		wipe(&tree)
		if !bytes.Equal(other, wantBytes(before)) {
			t.Fatalf("Put of %v keeps its argument", before)
		}
	}
}

// A head with more bytes than are needed is none, of whatever class.
func TestP5_3LongHeads(t *testing.T) {
	for class := range int64(3) {
		for v := range int64(300) {
			fewest := big.NewInt(v)
			for behind := 1; behind <= 8; behind++ {
				b := append([]byte{byte(64*class + 55 + int64(behind))}, fewest.FillBytes(make([]byte, 8))[8-behind:]...)
				if v >= 1<<8 && behind == 1 || bytes.Equal(b, wantHead(class, fewest)) {
					continue
				}
				checkNone(t, b)
				checkNone(t, append(b, make([]byte, v)...)) // as many bytes, or numbers 0, as it says
				checkNone(t, append(b, make([]byte, 500)...))
			}
		}
	}
	checkNone(t, []byte{56, 55})
	checkNone(t, []byte{57, 0, 200})
	checkNone(t, []byte{63, 0, 255, 255, 255, 255, 255, 255, 255})
}

func TestP5_3WrongClass(t *testing.T) {
	for low := range 64 {
		b := []byte{byte(192 + low)}
		for n := range 80 {
			checkNone(t, append(b, make([]byte, n)...))
			checkNone(t, append(b, bytes.Repeat([]byte{100}, n)...))
			checkNone(t, append([]byte{129}, append(b, make([]byte, n)...)...))
		}
	}
}

func TestP5_3Cut(t *testing.T) {
	checkNone(t, nil)
	checkNone(t, []byte{})
	draw := rand.New(rand.NewSource(4))
	trees := []Tree{number(28), number(1 << 40), number(math.MinInt64), text(strings.Repeat("x", 300)), list(), repeat(number(0), 56), repeat(text("ab"), 300), within(number(1), 16, 1, 0)}
	for range 100 {
		trees = append(trees, drawnTree(draw, 6))
	}
	for _, tree := range trees {
		b := wantBytes(tree)
		for n := range b {
			checkNone(t, b[:n])
		}
	}
}

func TestP5_3Behind(t *testing.T) {
	draw := rand.New(rand.NewSource(5))
	for range 200 {
		b := wantBytes(drawnTree(draw, 4))
		for n := range 256 {
			checkNone(t, append(slices.Clone(b), byte(n)))
		}
		checkNone(t, append(slices.Clone(b), b...))
		checkNone(t, append(slices.Clone(b), make([]byte, 1000)...))
	}
}

// What heads say is not taken on ahead of its being there.
func TestP5_3NotThere(t *testing.T) {
	for _, v := range []uint64{1, 2, 55, 56, 255, 256, 1 << 16, 1 << 24, 1<<31 - 1, 1 << 31, 1 << 32, 1 << 40, 1<<63 - 1, 1 << 63, 1<<63 + 1, math.MaxUint64 - 1, math.MaxUint64} {
		for class := range int64(2) {
			head := wantHead(1+class, new(big.Int).SetUint64(v))
			for _, there := range []uint64{0, 1, 100} {
				b := append(slices.Clone(head), make([]byte, min(there, v-1))...)
				checkNone(t, b)
				for deep := range 18 {
					checkNone(t, append(bytes.Repeat([]byte{129}, deep), b...))
					if class == 1 {
						checkNone(t, append(bytes.Repeat(head, deep), b...))
					}
				}
			}
		}
	}
	deep := bytes.Repeat([]byte{188, 255, 255, 255, 255, 255}, 16) // each list says that it has 2^40 - 1 kids
	checkLittleTaken(t, deep)
	checkLittleTaken(t, append(deep, 126, 255, 255, 255, 255, 255, 255, 255))
	checkLittleTaken(t, []byte{187, 1, 0, 0, 0, 0, 0, 0}) // 2^24 kids, of which three are there
	checkLittleTaken(t, []byte{123, 1, 0, 0, 0, 0, 0, 0})
}

// checkLittleTaken: these few bytes are no tree's, and little memory is taken to tell that.
func checkLittleTaken(t *testing.T, b []byte) {
	t.Helper()
	var before, behind runtime.MemStats
	runtime.ReadMemStats(&before)
	checkNone(t, b)
	runtime.ReadMemStats(&behind)
	if taken := behind.TotalAlloc - before.TotalAlloc; taken > 1<<20 {
		t.Errorf("%d bytes of memory were taken for %d bytes, first %v", taken, len(b), b[:6])
	}
}

func TestP5_3TooDeep(t *testing.T) {
	for deep := range 40 {
		for _, inner := range [][]byte{{2}, {64}, {65, 'a'}, {128}} {
			b := append(bytes.Repeat([]byte{129}, deep), inner...)
			lists := deep
			if inner[0] == 128 {
				lists++
			}
			if lists > 16 {
				checkNone(t, b)
			} else if tree, e := Get(b); e != api.OK || !bytes.Equal(wantBytes(tree), b) {
				t.Errorf("%d deep: %v, %v", lists, tree, e)
			}
		}
	}
	checkNone(t, bytes.Repeat([]byte{129}, 10000000))
	checkNone(t, append(bytes.Repeat([]byte{129}, 1000000), 0))
	wide := repeat(within(number(1), 15, 1, 0), 40) // lists one behind the other are no deeper than one
	checkRight(t, wide, wantBytes(wide))
	last := list(repeat(list(), 40), within(list(), 15, 1, 0))
	checkPutError(t, last, api.ErrLong)
	checkNone(t, wantBytes(last))
}

func TestP5_3NewMemory(t *testing.T) {
	draw := rand.New(rand.NewSource(6))
	for range 300 {
		tree := list(drawnTree(draw, 5), text("abc"), list(text("d"), number(1)))
		b := wantBytes(tree)
		before := slices.Clone(b)
		one, _ := Get(b)
		other, _ := Get(b)
		wipe(&one)
		if !bytes.Equal(b, before) || !reflect.DeepEqual(other, tree) {
			t.Fatalf("Get's answers share memory with %v, or with each other", before)
		}
		clear(b)
		if !reflect.DeepEqual(other, tree) {
			t.Fatalf("Get of %v keeps its argument", before)
		}
	}
}

// checkAny: Get tells of these bytes what the chapter's words tell.
func checkAny(t *testing.T, b []byte) {
	t.Helper()
	want, left, ok := wantTree(b, 0)
	if !ok || len(left) > 0 {
		checkNone(t, b)
		return
	}
	got, e := Get(b)
	if e != api.OK || !reflect.DeepEqual(got, want) {
		t.Errorf("Get(%v) = %v, %v, want %v", b, got, e, want)
	}
	if again, e := Put(got); e != api.OK || !bytes.Equal(again, b) || Size(got) != len(b) || !Right(got) {
		t.Errorf("Put of what %v is: %v, %v", b, again, e)
	}
}

// goThrough goes through all rows of up to n bytes of these.
func goThrough(alphabet []byte, n int, look func([]byte)) {
	row := make([]byte, 0, n)
	var deeper func()
	deeper = func() {
		look(row)
		if len(row) == n {
			return
		}
		for _, c := range alphabet {
			row = append(row, c)
			deeper()
			row = row[:len(row)-1]
		}
	}
	deeper()
}

func TestP5_3AllShortBytes(t *testing.T) {
	var all []byte
	for n := range 256 {
		all = append(all, byte(n))
	}
	look := func(b []byte) { checkAny(t, b) }
	goThrough(all, 2, look)
	goThrough([]byte{0, 1, 54, 55, 56, 57, 58, 63, 64, 65, 66, 119, 120, 121, 127, 128, 129, 130, 131, 183, 184, 185, 191, 192, 248, 255}, 3, look)
	goThrough([]byte{0, 55, 56, 64, 65, 120, 128, 129, 130, 192}, 5, look)
	goThrough([]byte{1, 66, 128, 129, 130, 131}, 7, look)
}

// One byte of a tree's bytes is another one: what is told is what the words tell.
func TestP5_3OneByteOff(t *testing.T) {
	draw := rand.New(rand.NewSource(7))
	for range 3000 {
		b := wantBytes(drawnTree(draw, 6))
		if len(b) > 2000 {
			continue
		}
		for range 10 {
			off := slices.Clone(b)
			off[draw.Intn(len(b))] = byte(draw.Intn(256))
			checkAny(t, off)
		}
	}
}

func TestP5_4PutAndGot(t *testing.T) {
	draw := rand.New(rand.NewSource(8))
	for range 5000 {
		tree := drawnTree(draw, draw.Intn(17))
		checkRight(t, tree, wantBytes(tree))
	}
}

func TestP5_4NoBeginning(t *testing.T) {
	draw := rand.New(rand.NewSource(9))
	var all [][]byte
	for range 3000 {
		b, e := Put(drawnTree(draw, 4))
		if e != api.OK {
			t.Fatal(e)
		}
		all = append(all, b)
	}
	for _, n := range edgeNumbers() {
		b, _ := Put(Of(n))
		all = append(all, b)
	}
	slices.SortFunc(all, bytes.Compare)
	all = slices.CompactFunc(all, bytes.Equal)
	for i := 1; i < len(all); i++ { // a beginning stands next to what it begins, or to another one that it begins
		if bytes.HasPrefix(all[i], all[i-1]) {
			t.Errorf("%v begins %v", all[i-1], all[i])
		}
	}
}

func TestP5_4ListsAreTheirKids(t *testing.T) {
	draw := rand.New(rand.NewSource(10))
	for _, n := range []int{0, 1, 2, 55, 56, 300} {
		kids := make([]Tree, n)
		want := wantHead(2, big.NewInt(int64(n)))
		for i := range kids {
			kids[i] = drawnTree(draw, 3)
			b, _ := Put(kids[i])
			want = append(want, b...)
		}
		if b, e := Put(Row(kids...)); e != api.OK || !bytes.Equal(b, want) {
			t.Errorf("a list of %d kids: %d bytes, %v, want %d", n, len(b), e, len(want))
		}
	}
}

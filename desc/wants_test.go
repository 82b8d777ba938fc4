package desc_test

import (
	"bytes"
	"fmt"
	"math/big"
	"reflect"
	"slices"
	"testing"

	"hatchway/api"
	"hatchway/desc"
	"hatchway/kinds"
	"hatchway/wire"
)

// The chapter's words, written out apart from the package's own functions. A tree is an int64, a string, or a []any of trees.

func wantHead(class int64, v *big.Int) []byte {
	if v.Cmp(big.NewInt(56)) < 0 {
		return []byte{byte(64*class + v.Int64())}
	}
	behind := v.Bytes() // the fewest, the highest first
	return append([]byte{byte(64*class + 55 + int64(len(behind)))}, behind...)
}

func wantBytes(tree any) []byte {
	switch x := tree.(type) {
	case int64:
		n := new(big.Int).Mul(big.NewInt(x), big.NewInt(2))
		if x < 0 {
			n.Neg(n).Sub(n, big.NewInt(1))
		}
		return wantHead(0, n)
	case string:
		return append(wantHead(1, big.NewInt(int64(len(x)))), x...)
	}
	row := tree.([]any)
	b := wantHead(2, big.NewInt(int64(len(row))))
	for _, kid := range row {
		b = append(b, wantBytes(kid)...)
	}
	return b
}

func rowOf[T any](row []T, tree func(T) any) any {
	all := []any{}
	for _, t := range row {
		all = append(all, tree(t))
	}
	return all
}

func wantTree(t api.Table) any {
	return []any{t.Provider, rowOf(t.Types, wantType), rowOf(t.Helpers, wantHelper)}
}

func wantType(t api.ProgType) any {
	field := func(f api.Field) any {
		write := map[bool]int64{true: 1}[f.Write]
		return []any{int64(f.Off), int64(f.Size), int64(f.Kind), write}
	}
	need := func(n api.Need) any { return []any{int64(n.Helper), int64(n.Major), int64(n.Minor)} }
	return []any{t.Name, int64(t.Ctx), rowOf(t.Fields, field), rowOf(t.Needs, need), t.Lo, t.Hi}
}

func wantHelper(h api.Helper) any {
	kind := func(k api.MapKind) any { return int64(k) }
	arg := func(a api.Arg) any { return []any{int64(a.Kind), a.Lo, a.Hi, rowOf(a.Maps, kind)} }
	ret := []any{int64(h.Ret.Kind), h.Ret.Lo, h.Ret.Hi, int64(h.Ret.Size)}
	return []any{int64(h.Id), int64(h.Major), int64(h.Minor), int64(h.Core), rowOf(h.Args, arg), ret}
}

// treeIn is the tree that a tree of package wire is.
func treeIn(t wire.Tree) any {
	switch t.Kind {
	case wire.Number:
		return t.Num
	case wire.Bytes:
		return string(t.Bytes)
	}
	return rowOf(t.Kids, treeIn)
}

// kid is what stands there in a tree that is a list, if it is a T; else a zero one.
func kid[T any](tree any, at int) T {
	var t T
	if row, ok := tree.([]any); ok && at < len(row) {
		t, _ = row[at].(T)
	}
	return t
}

func kidsAt[T any](tree any, at int, read func(any) T) []T {
	var all []T
	for _, k := range kid[[]any](tree, at) {
		all = append(all, read(k))
	}
	return all
}

// guess is the table whose tree this is, if there is one: it takes what stands where a table has it, and asks nothing.
func guess(tree any) api.Table {
	return api.Table{Provider: kid[string](tree, 0), Types: kidsAt(tree, 1, guessType), Helpers: kidsAt(tree, 2, guessHelper)}
}

func number[N ~int | ~int64 | ~uint8](tree any, at int) N {
	return N(kid[int64](tree, at))
}

func guessType(tree any) api.ProgType {
	field := func(f any) api.Field {
		return api.Field{Off: number[int](f, 0), Size: number[int](f, 1), Kind: number[api.FieldKind](f, 2), Write: kid[int64](f, 3) == 1}
	}
	need := func(n any) api.Need {
		return api.Need{Helper: number[int](n, 0), Major: number[int](n, 1), Minor: number[int](n, 2)}
	}
	return api.ProgType{
		Name: kid[string](tree, 0), Ctx: number[int](tree, 1), Fields: kidsAt(tree, 2, field), Needs: kidsAt(tree, 3, need),
		Lo: kid[int64](tree, 4), Hi: kid[int64](tree, 5),
	}
}

func guessHelper(tree any) api.Helper {
	arg := func(a any) api.Arg {
		kind := func(k any) api.MapKind { return number[api.MapKind]([]any{k}, 0) }
		return api.Arg{Kind: number[api.ArgKind](a, 0), Lo: kid[int64](a, 1), Hi: kid[int64](a, 2), Maps: kidsAt(a, 3, kind)}
	}
	ret := kid[[]any](tree, 5)
	return api.Helper{
		Id: number[int](tree, 0), Major: number[int](tree, 1), Minor: number[int](tree, 2), Core: number[api.CoreKind](tree, 3), Args: kidsAt(tree, 4, arg),
		Ret: api.Ret{Kind: number[api.RetKind](ret, 0), Lo: kid[int64](ret, 1), Hi: kid[int64](ret, 2), Size: number[int](ret, 3)},
	}
}

// wantGet is the table that is right and has these bytes.
func wantGet(b []byte) (api.Table, bool) {
	tree, e := wire.Get(b)
	if e != api.OK {
		return api.Table{}, false
	}
	t := guess(treeIn(tree))
	return t, kinds.Table(t) == api.OK && bytes.Equal(wantBytes(wantTree(t)), b)
}

// copied is a table in other memory, with lists without elements made nil: the two are one.
func copied(x api.Table) api.Table {
	x.Types, x.Helpers = newRow(x.Types), newRow(x.Helpers)
	for i := range x.Types {
		x.Types[i].Fields, x.Types[i].Needs = newRow(x.Types[i].Fields), newRow(x.Types[i].Needs)
	}
	for i := range x.Helpers {
		x.Helpers[i].Args = newRow(x.Helpers[i].Args)
		for j := range x.Helpers[i].Args {
			x.Helpers[i].Args[j].Maps = newRow(x.Helpers[i].Args[j].Maps)
		}
	}
	return x
}

func newRow[T any](row []T) []T { return append([]T(nil), row...) }

func isSame(x, y api.Table) bool { return reflect.DeepEqual(copied(x), copied(y)) }

// first is as much of bytes as a message needs; told, of a table.
func first(b []byte) []byte { return b[:min(80, len(b))] }

func told(x api.Table) string {
	text := fmt.Sprintf("%+v", x)
	return text[:min(400, len(text))]
}

// checkPut: this table is right, has these bytes, and is what they are.
func checkPut(t *testing.T, x api.Table, want []byte) {
	t.Helper()
	before := copied(x)
	if b, e := desc.Put(x); e != api.OK || !bytes.Equal(b, want) {
		t.Errorf("Put(%s) = %v .., %v, want %v", told(x), first(b), e, first(want))
	}
	if !isSame(x, before) {
		t.Errorf("Put changes %s", told(before))
	}
	if got, e := desc.Get(want); e != api.OK || !isSame(got, x) {
		t.Errorf("Get(%v ..) = %s, %v, want %s", first(want), told(got), e, told(x))
	}
}

// checkPutError: this table has no bytes, since that error holds; and what its bytes would be is no table's.
func checkPutError(t *testing.T, x api.Table, want api.Errno) {
	t.Helper()
	if b, e := desc.Put(x); e != want || b != nil {
		t.Errorf("Put(%s) = %v .., %v, want none and %v", told(x), first(b), e, want)
	}
	checkNone(t, wantBytes(wantTree(x)))
}

// checkNone: these are no table's bytes.
func checkNone(t *testing.T, b []byte) {
	t.Helper()
	if got, e := desc.Get(b); e != api.ErrShape || !reflect.DeepEqual(got, api.Table{}) {
		t.Errorf("Get(%v ..) = %s, %v, want none and ErrShape", first(b), told(got), e)
	}
}

// checkGet: Get tells of these bytes what the chapter's words tell; and whether they are a table's.
func checkGet(t *testing.T, b []byte) bool {
	t.Helper()
	want, there := wantGet(b)
	if !there {
		checkNone(t, b)
		return false
	}
	given := slices.Clone(b)
	got, e := desc.Get(given)
	if e != api.OK || !isSame(got, want) || !bytes.Equal(given, b) {
		t.Errorf("Get(%v ..) = %s, %v, want %s", first(b), told(got), e, told(want))
	}
	if again, e := desc.Put(got); e != api.OK || !bytes.Equal(again, b) {
		t.Errorf("Put of what %v .. is: %v .., %v", first(b), first(again), e)
	}
	return true
}

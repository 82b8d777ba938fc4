package desc

import (
	"hatchway/api"
	"hatchway/wire"
)

// kids are a list's trees that were not read yet. Its calls panic, where what is asked for is not there.
type kids struct{ left []wire.Tree }

// next reads a kid, which must be of that kind.
func (k *kids) next(kind wire.Kind) wire.Tree {
	demand(!k.empty() && k.left[0].Kind == kind)
	kid := k.left[0]
	k.left = k.left[1:]
	return kid
}

func (k *kids) empty() bool {
	return len(k.left) == 0
}

// each goes as often as there are kids: each turn is to read one.
func (k *kids) each(yield func() bool) {
	for range k.left {
		if !yield() {
			return
		}
	}
}

// list is the list that is read just now.
type list struct{ kids }

// within reads a kid that is a list: its own kids are those that parts reads, and no more.
func (l *list) within(parts func()) {
	inner := kids{left: l.next(wire.List).Kids}
	outer := l.kids
	l.kids = inner
	parts()
	demand(l.empty())
	l.kids = outer
}

func (l *list) text() string {
	return string(l.next(wire.Bytes).Bytes)
}

func (l *list) flag() bool {
	var n int
	getNumbers(l, &n)
	demand(n == 0 || n == 1)
	return n == 1
}

// getNumbers reads a number into each of these, which must have room for it.
func getNumbers[N integer](l *list, all ...*N) {
	for _, n := range all {
		number := l.next(wire.Number).Num
		*n = N(number)
		demand(int64(*n) == number)
	}
}

// getRow reads a list, each kid of which get reads.
func getRow[T any](l *list, get func() T) []T {
	var row []T
	l.within(func() {
		for range l.each {
			row = append(row, get())
		}
	})
	return row
}

func (l *list) table() (t api.Table) {
	l.within(func() {
		t.Provider = l.text()
		t.Types = getRow(l, l.progType)
		t.Helpers = getRow(l, l.helper)
	})
	return t
}

func (l *list) progType() (t api.ProgType) {
	l.within(func() {
		t.Name = l.text()
		getNumbers(l, &t.Ctx)
		t.Fields = getRow(l, l.field)
		t.Needs = getRow(l, l.need)
		getNumbers(l, &t.Lo, &t.Hi)
	})
	return t
}

func (l *list) field() (f api.Field) {
	l.within(func() {
		getNumbers(l, &f.Off, &f.Size)
		getNumbers(l, &f.Kind)
		f.Write = l.flag()
	})
	return f
}

func (l *list) need() (n api.Need) {
	l.within(func() { getNumbers(l, &n.Helper, &n.Major, &n.Minor) })
	return n
}

func (l *list) helper() (h api.Helper) {
	l.within(func() {
		getNumbers(l, &h.Id, &h.Major, &h.Minor)
		getNumbers(l, &h.Core)
		h.Args = getRow(l, l.arg)
		h.Ret = l.ret()
	})
	return h
}

func (l *list) arg() (a api.Arg) {
	l.within(func() {
		getNumbers(l, &a.Kind)
		getNumbers(l, &a.Lo, &a.Hi)
		a.Maps = getRow(l, l.mapKind)
	})
	return a
}

func (l *list) mapKind() (k api.MapKind) {
	getNumbers(l, &k)
	return k
}

func (l *list) ret() (r api.Ret) {
	l.within(func() {
		getNumbers(l, &r.Kind)
		getNumbers(l, &r.Lo, &r.Hi)
		getNumbers(l, &r.Size)
	})
	return r
}

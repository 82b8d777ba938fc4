package store

import (
	"cmp"
	"iter"
	"slices"
)

// row is a thing and its handle.
type row[T any] struct {
	handle int
	thing  T
}

// table is things by handles, which are counted on from 1, so that none is given twice.
type table[T any] struct {
	last int      // the handle that was given last
	rows []row[T] // by rising handles
}

func (t *table[T]) many() int {
	return len(t.rows)
}

// add tells the handle of a thing that is there from then on.
func (t *table[T]) add(thing T) int {
	t.last++
	t.rows = append(t.rows, row[T]{t.last, thing})
	return t.last
}

// find tells the thing under a handle; false, if there is none.
func (t *table[T]) find(handle int) (T, bool) {
	at, there := t.where(handle)
	if !there {
		var none T
		return none, false
	}
	return t.rows[at].thing, true
}

// remove lets the thing under a handle go; false, if there is none.
func (t *table[T]) remove(handle int) bool {
	at, there := t.where(handle)
	if there {
		t.rows = slices.Delete(t.rows, at, at+1)
	}
	return there
}

// handles goes through those under which there are things, rising.
func (t *table[T]) handles() iter.Seq[int] {
	return func(yield func(int) bool) {
		for _, r := range t.rows {
			if !yield(r.handle) {
				return
			}
		}
	}
}

// where tells at which row a handle stands, and whether it does.
func (t *table[T]) where(handle int) (int, bool) {
	return slices.BinarySearchFunc(t.rows, handle, func(r row[T], handle int) int {
		return cmp.Compare(r.handle, handle)
	})
}

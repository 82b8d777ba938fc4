package queue

import (
	"iter"
	"slices"
)

// eldest is the place of the row that was put longest ago.
const eldest = 0

// row is the parts of one value.
type row[T any] []T

// rows are in the order in which they were put, so many as were not removed since.
type rows[T any] struct {
	all  []row[T]                              // the eldest first, the youngest last
	next func([]row[T]) iter.Seq2[int, row[T]] // goes through rows, the next one first
}

// left goes through the rows that are left, by their places, the next one first.
func (r *rows[T]) left() iter.Seq2[int, row[T]] {
	return r.next(r.all)
}

func (r *rows[T]) many() int {
	return len(r.all)
}

// put makes a copy of parts the youngest row.
func (r *rows[T]) put(parts ...T) {
	r.all = append(r.all, slices.Clone(parts))
}

// remove takes out the row at a place, and tells it.
func (r *rows[T]) remove(at int) row[T] {
	gone := r.all[at]
	r.all = slices.Delete(r.all, at, at+1)
	return gone
}

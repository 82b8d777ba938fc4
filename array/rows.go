package array

import (
	"hatchway/api"
)

// cell is the parts of one value, as many for good.
type cell[T any] []T

// rows is cells by places, from 0 on, all of one size.
type rows[T any] struct {
	size  int
	cells []cell[T]
}

func rowsOf[T any](places, size int) rows[T] {
	r := rows[T]{size: size, cells: make([]cell[T], places)}
	for place := range r.cells {
		r.cells[place] = make(cell[T], size)
	}
	return r
}

func (r *rows[T]) has(place int) bool {
	return place >= 0 && place < len(r.cells)
}

// at tells the cell of a place; ErrNone, if there is none.
func (r *rows[T]) at(place int) cell[T] {
	demand(r.has(place), api.ErrNone)
	return r.cells[place]
}

// takes asks whether there are so many parts from off on. What is left behind off is held against many, since off and many together may be more than an int holds.
func (c cell[T]) takes(off, many int) bool {
	return off >= 0 && many <= len(c)-off
}

// put copies parts that the cell takes into it, from off on.
func (c cell[T]) put(off int, parts []T) {
	copy(c[off:], parts)
}

// told tells a copy of all parts.
func (c cell[T]) told() []T {
	return append([]T(nil), c...)
}

package cell

import (
	"iter"

	"hatchway/api"
)

// wide is how many places one thing of a row has.
const wide = 8

// row is as many things as a stack has groups.
type row[T any] struct {
	things [api.MaxStack / wide]T
}

// part is some of a thing's places, one behind the other: those from the one on, ahead of the other.
type part struct {
	from, to int
}

// at tells the thing that has a place.
func (r *row[T]) at(off int64) *T {
	return &r.things[off/wide]
}

// touched yields in order each thing that has one of the places from off on, size of them, and which of its own they are.
func (r *row[T]) touched(off int64, size int) iter.Seq2[*T, part] {
	return func(yield func(*T, part) bool) {
		for place, left := off, size; left > 0; {
			from := int(place % wide)
			p := part{from: from, to: min(wide, from+left)}
			if !yield(r.at(place), p) {
				return
			}
			place, left = place+int64(p.size()), left-p.size()
		}
	}
}

func (p part) size() int {
	return p.to - p.from
}

// bits tells a bit for each place, the lowest one for the thing's first.
func (p part) bits() uint8 {
	return uint8(1<<p.to - 1<<p.from)
}

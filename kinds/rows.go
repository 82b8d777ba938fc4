package kinds

import (
	"cmp"
	"iter"

	"hatchway/api"
)

// bounds are the least and the greatest that something may be.
type bounds[T cmp.Ordered] struct{ lo, hi T }

func from[T cmp.Ordered](lo, hi T) bounds[T] {
	return bounds[T]{lo, hi}
}

func (b bounds[T]) has(t T) bool {
	return b.lo <= t && t <= b.hi
}

// rise goes through a row that must rise, and tells the first error: of each element its own, then notAbove, unless it is above the one ahead.
func rise[T any](row []T, own func(T) api.Errno, above func(ahead, t T) bool, notAbove api.Errno) api.Errno {
	for ahead, t := range withAhead(row) {
		if e := own(t); e != api.OK {
			return e
		}
		if last := len(ahead) - 1; last >= 0 && !above(ahead[last], t) {
			return notAbove
		}
	}
	return api.OK
}

// withAhead goes through a row: each element, and all those ahead of it.
func withAhead[T any](row []T) iter.Seq2[[]T, T] {
	return func(yield func([]T, T) bool) {
		for i, t := range row {
			if !yield(row[:i], t) {
				return
			}
		}
	}
}

// every tells whether something holds of each element of a row that has some.
func every[T any](row []T, holds func(T) bool) bool {
	for _, t := range row {
		if !holds(t) {
			return false
		}
	}
	return len(row) > 0
}

// unless tells an error, unless something holds.
func unless(holds bool, e api.Errno) api.Errno {
	if holds {
		return api.OK
	}
	return e
}

package ring

import (
	"iter"
)

// link is the parts of one record, and the link behind it.
type link[T any] struct {
	parts  []T
	behind *link[T]
}

// links are records one behind the other, and the measure of what each takes.
type links[T any] struct {
	first, last *link[T] // nil, if there are none
	takes       func(parts []T) int
}

func linksOf[T any](takes func(parts []T) int) links[T] {
	return links[T]{takes: takes}
}

// takesBeside measures a record by its parts, and so much beside them.
func takesBeside[T any](beside int) func(parts []T) int {
	return func(parts []T) int { return beside + len(parts) }
}

// all goes through the records' parts, the first record first.
func (l *links[T]) all() iter.Seq[[]T] {
	return func(yield func([]T) bool) {
		for at := l.first; at != nil; at = at.behind {
			if !yield(at.parts) {
				return
			}
		}
	}
}

// taken tells what all records take together.
func (l *links[T]) taken() int {
	sum := 0
	for parts := range l.all() {
		sum += l.takes(parts)
	}
	return sum
}

// add puts a copy of parts behind the last record. The copy of no parts is nil, whatever they were, so that all such records are told alike.
func (l *links[T]) add(parts []T) {
	at := &link[T]{parts: append([]T(nil), parts...)}
	if l.first == nil {
		l.first = at
	} else {
		l.last.behind = at
	}
	l.last = at
}

// remove takes out the first record, which must be there, and tells its parts.
func (l *links[T]) remove() []T {
	gone := l.first
	l.first = gone.behind
	if l.first == nil {
		// Else the last record would be kept.
		l.last = nil
	}
	return gone.parts
}

package hash

import (
	"iter"

	"hatchway/api"
)

// place is the parts of one value, as many for good, and whether a key has it.
type place[T any] struct {
	parts []T
	taken bool
}

// places are by numbers, from 0 on, all of one size.
type places[T any] struct {
	size int
	all  []place[T]
}

func placesOf[T any](many, size int) places[T] {
	p := places[T]{size: size, all: make([]place[T], many)}
	for at := range p.all {
		p.all[at].parts = make([]T, size)
	}
	return p
}

// at tells the place of a number; ErrNone, if there is none.
func (p *places[T]) at(number int) *place[T] {
	demand(number >= 0 && number < len(p.all), api.ErrNone)
	return &p.all[number]
}

// free goes through the numbers of the places that no key has, the least one first.
func (p *places[T]) free() iter.Seq[int] {
	return func(yield func(int) bool) {
		for at := range p.all {
			if !p.all[at].taken && !yield(at) {
				return
			}
		}
	}
}

// take tells the least free place's number, which is a key's from then on; ErrFull, if none is free.
func (p *places[T]) take() int {
	for at := range p.free() {
		p.all[at].taken = true
		return at
	}
	panic(api.ErrFull)
}

// leave makes a place free, with the parts as they stand.
func (p *places[T]) leave(number int) {
	p.at(number).taken = false
}

// takes asks whether there are so many parts from off on. What is left behind off is held against many, since off and many together may be more than an int holds.
func (p *place[T]) takes(off, many int) bool {
	return off >= 0 && many <= len(p.parts)-off
}

// put copies parts that the place takes into it, from off on.
func (p *place[T]) put(off int, parts []T) {
	copy(p.parts[off:], parts)
}

// told tells a copy of all parts.
func (p *place[T]) told() []T {
	return append([]T(nil), p.parts...)
}

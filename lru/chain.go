package lru

import (
	"iter"
)

// link is one thing of a chain, and its neighbours there.
type link[T any] struct {
	thing          T
	elder, younger *link[T]
}

// chain is things in an order from the eldest to the youngest. A link without a thing joins both ends to a ring, so that each has neighbours.
type chain[T any] struct {
	ends *link[T] // younger: the eldest; elder: the youngest
}

func chainOf[T any]() chain[T] {
	ends := &link[T]{}
	ends.elder, ends.younger = ends, ends
	return chain[T]{ends}
}

// add puts a thing in as the youngest.
func (c chain[T]) add(thing T) *link[T] {
	at := &link[T]{thing: thing}
	c.join(at)
	return at
}

// renew makes the youngest of what is in the chain.
func (c chain[T]) renew(at *link[T]) {
	c.remove(at)
	c.join(at)
}

// remove takes out what is in the chain. The link itself still tells its neighbours, for whoever is going through the chain.
func (c chain[T]) remove(at *link[T]) {
	at.elder.younger, at.younger.elder = at.younger, at.elder
}

// join puts in what is not in the chain, as the youngest.
func (c chain[T]) join(at *link[T]) {
	at.elder, at.younger = c.ends.elder, c.ends
	at.elder.younger, at.younger.elder = at, at
}

// links goes through the chain, the eldest first. Whoever goes through it may remove the link that was yielded.
func (c chain[T]) links() iter.Seq[*link[T]] {
	return func(yield func(*link[T]) bool) {
		for at := c.ends.younger; at != c.ends; at = at.younger {
			if !yield(at) {
				return
			}
		}
	}
}

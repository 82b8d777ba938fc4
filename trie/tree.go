package trie

import (
	"iter"
)

// node is where the bits of some keys lead to.
type node[T any] struct {
	thing *T          // nil, if nothing is at it
	many  int         // things at it and behind it
	kids  [2]*node[T] // where one more bit leads to
}

// tree is nodes, none of which is without things, so that what is removed leaves none behind.
type tree[T any] struct {
	root *node[T]
}

// pegs goes through what the nodes hang at that bits lead to, the root's peg first, up to one at which none hangs. Whoever goes through them may hang a node there, or take it off.
func (t *tree[T]) pegs(bits iter.Seq2[int, int]) iter.Seq[**node[T]] {
	return func(yield func(**node[T]) bool) {
		at := &t.root
		for _, bit := range bits {
			if !yield(at) || *at == nil {
				return
			}
			at = &(*at).kids[bit]
		}
		yield(at)
	}
}

// longest tells the last thing on the way that bits lead; nil, if there is none.
func (t *tree[T]) longest(bits iter.Seq2[int, int]) *T {
	var found *T
	for peg := range t.pegs(bits) {
		if here := *peg; here != nil && here.thing != nil {
			found = here.thing
		}
	}
	return found
}

// put puts a thing where bits lead to. Nothing may be there.
func (t *tree[T]) put(bits iter.Seq2[int, int], thing *T) {
	var last *node[T]
	for peg := range t.pegs(bits) {
		if *peg == nil {
			*peg = &node[T]{}
		}
		last = *peg
		last.many++
	}
	last.thing = thing
}

// remove takes off the thing where bits lead to, and the nodes that lead to no other one. There must be one.
func (t *tree[T]) remove(bits iter.Seq2[int, int]) {
	var last *node[T]
	for peg := range t.pegs(bits) {
		last = *peg
		last.many--
		if last.many == 0 {
			*peg = nil
		}
	}
	// It is where the bits lead to, unless it was taken off, with all behind it.
	last.thing = nil
}

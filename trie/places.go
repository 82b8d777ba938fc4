package trie

import (
	"slices"
)

// place is the bytes of one value, as many for good, and its key.
type place struct {
	number int
	value  []byte
	key    []byte // nil, if the place is free
}

// free tells whether no key is here.
func (p place) free() bool {
	return p.key == nil
}

// places are by numbers, from 0 on, all of one size.
type places struct {
	size int
	all  []place
}

func placesOf(many, size int) places {
	p := places{size: size, all: make([]place, many)}
	for at := range p.all {
		p.all[at] = place{number: at, value: make([]byte, size)}
	}
	return p
}

func (p *places) has(number int) bool {
	return number >= 0 && number < len(p.all)
}

// leastFree tells the first place without a key; nil, if there is none.
func (p *places) leastFree() *place {
	least := slices.IndexFunc(p.all, place.free)
	if least < 0 {
		return nil
	}
	return &p.all[least]
}

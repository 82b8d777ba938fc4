package lru

import (
	"slices"
)

// place is the bytes of one value, as many for good, and whether a key has it.
type place struct {
	value []byte
	taken bool
}

// places are by numbers, from 0 on, all of one size.
type places struct {
	size int
	all  []place
}

func placesOf(many, size int) places {
	p := places{size: size, all: make([]place, many)}
	for at := range p.all {
		p.all[at].value = make([]byte, size)
	}
	return p
}

func (p *places) has(number int) bool {
	return number >= 0 && number < len(p.all)
}

// take tells the least free place's number, which is a key's from then on. There must be one.
func (p *places) take() int {
	least := slices.IndexFunc(p.all, func(here place) bool { return !here.taken })
	p.all[least].taken = true
	return least
}

// leave makes a place free, with the bytes as they stand.
func (p *places) leave(number int) {
	p.all[number].taken = false
}

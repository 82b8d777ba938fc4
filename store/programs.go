package store

import (
	"bytes"

	"hatchway/api"
	"hatchway/array"
)

// valueSize is how many bytes a place of programs has.
const valueSize = 8

// programs is an array's places, of which those whose bytes are noughts are empty. Value and Set are the array's.
type programs struct {
	*array.Array
}

// programsOf tells places of a right make, all empty.
func programsOf(m api.MapSpec) (programs, api.Errno) {
	m.Kind = api.MapArray
	places, e := array.New(m)
	return programs{places}, e
}

// Lookup tells a key's place, if it is not empty.
func (p programs) Lookup(key []byte) (int, api.Errno) {
	place, e := p.Array.Lookup(key)
	if e != api.OK {
		return 0, e
	}
	if p.empty(place) {
		return 0, api.ErrNone
	}
	return place, api.OK
}

// Update puts a value at a key's place. One of noughts leaves the place empty.
func (p programs) Update(key, value []byte, flags uint64) api.Errno {
	if len(value) != valueSize || flags > api.FlagThere {
		return api.ErrArg
	}
	place, e := p.Array.Lookup(key)
	switch {
	case e != api.OK:
		return e
	case flags == api.FlagNew && !p.empty(place):
		return api.ErrThere
	case flags == api.FlagThere && p.empty(place):
		return api.ErrNone
	}
	return p.Set(place, 0, value)
}

// Delete makes a key's place empty, if it is not.
func (p programs) Delete(key []byte) api.Errno {
	place, e := p.Lookup(key)
	if e != api.OK {
		return e
	}
	return p.Set(place, 0, noughts())
}

// empty tells whether the bytes at a place, which must be there, are noughts.
func (p programs) empty(place int) bool {
	value, _ := p.Value(place)
	return bytes.Equal(value, noughts())
}

func noughts() []byte {
	return make([]byte, valueSize)
}

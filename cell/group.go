package cell

import (
	"hatchway/api"
)

// group is eight places: they hold a pointer or a map, or bytes, each of them set or not.
type group struct {
	whole api.Cell // nothing, but for a pointer or a map; with these no byte is set
	set   uint8    // a bit a byte, the lowest one of the first
	bytes [wide]byte
}

// holds asks for a pointer or a map.
func (g *group) holds() bool {
	return g.whole.Kind != api.CellNone
}

// has asks whether all bytes of a part are set.
func (g *group) has(p part) bool {
	return g.set&p.bits() == p.bits()
}

// put sets the bytes of a part to the first ones of b; a pointer or a map is gone with the first byte of its own.
func (g *group) put(p part, b []byte) {
	g.whole = api.Cell{}
	copy(g.bytes[p.from:p.to], b)
	g.set |= p.bits()
}

package cell

import (
	"hatchway/api"
)

// parts is which parts a cell may have that are not 0, and whether a group holds it whole.
type parts struct {
	word, region, off bool
	whole             bool
}

// kinds tells what a cell of each kind has.
func kinds() map[api.CellKind]parts {
	return map[api.CellKind]parts{
		api.CellNone: {},
		api.CellWord: {word: true},
		api.CellPtr:  {region: true, off: true, whole: true},
		api.CellMap:  {region: true, whole: true},
	}
}

// partsOf tells what cells of c's kind have, and whether c is one of them.
func partsOf(c api.Cell) (parts, bool) {
	has, there := kinds()[c.Kind]
	right := there && (has.word || c.Word == 0) && (has.region || c.Region == 0) && (has.off || c.Off == 0)
	return has, right
}

// bytesOf tells the lowest size bytes of a word, the lowest first.
func bytesOf(word uint64, size int) []byte {
	b := make([]byte, size)
	for i := range b {
		b[i] = byte(word >> (8 * i))
	}
	return b
}

// wordOf tells the word of bytes, the lowest first.
func wordOf(b []byte) uint64 {
	var word uint64
	for i, c := range b {
		word |= uint64(c) << (8 * i)
	}
	return word
}

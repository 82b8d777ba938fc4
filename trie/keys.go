package trie

import (
	"bytes"
	"cmp"
	"iter"
)

// head is how many bytes of a key say how many bits it has.
const head = 4

// bitCount tells how many bits a key says it has.
func bitCount(key []byte) int {
	many := 0
	for at, b := range key[:head] {
		many |= int(b) << (8 * at)
	}
	return many
}

// right tells whether a key, which has a head, has as many bits as it says.
func right(key []byte) bool {
	return bitCount(key) <= 8*(len(key)-head)
}

// bits goes through the bits of a right key that count, by their numbers; of each byte the highest is first.
func bits(key []byte) iter.Seq2[int, int] {
	return func(yield func(int, int) bool) {
		for number := range bitCount(key) {
			b := key[head+number/8]
			if !yield(number, int(b>>(7-number%8))&1) {
				return
			}
		}
	}
}

// plain tells a copy of a right key, whose bits that do not count are 0.
func plain(key []byte) []byte {
	told := make([]byte, len(key))
	copy(told[:head], key)
	for number, bit := range bits(key) {
		told[head+number/8] |= byte(bit) << (7 - number%8)
	}
	return told
}

// inOrder compares plain keys: those with fewer bits are first, those of as many rise byte by byte.
func inOrder(a, b []byte) int {
	return cmp.Or(cmp.Compare(bitCount(a), bitCount(b)), bytes.Compare(a, b))
}

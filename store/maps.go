package store

import (
	"hatchway/api"
	"hatchway/array"
	"hatchway/hash"
	"hatchway/lru"
	"hatchway/queue"
	"hatchway/ring"
	"hatchway/trie"
)

// byKeys is what maps by keys can do.
type byKeys interface {
	Lookup(key []byte) (int, api.Errno)
	Update(key, value []byte, flags uint64) api.Errno
	Delete(key []byte) api.Errno
	Value(place int) ([]byte, api.Errno)
	Set(place, off int, b []byte) api.Errno
}

// inOrder is what maps in order can do.
type inOrder interface {
	Push(value []byte, flags uint64) api.Errno
	Pop() ([]byte, api.Errno)
	Peek() ([]byte, api.Errno)
}

// ofRecords is what maps of records can do.
type ofRecords interface {
	Put(b []byte) api.Errno
	Take() ([]byte, api.Errno)
}

// mapOf tells a new map of a right make, of the package that its Kind has.
func mapOf(m api.MapSpec) (any, api.Errno) {
	switch m.Kind {
	case api.MapArray:
		return array.New(m)
	case api.MapHash:
		return hash.New(m)
	case api.MapLru:
		return lru.New(m)
	case api.MapTrie:
		return trie.New(m)
	case api.MapQueue, api.MapStack:
		return queue.New(m)
	case api.MapRing:
		return ring.New(m)
	}
	return programsOf(m)
}

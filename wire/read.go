package wire

import (
	"iter"

	"hatchway/api"
)

// rest is the bytes that were not read yet; it panics, where what is asked for is not there.
type rest struct{ left []byte }

func (r *rest) take(n uint64) []byte {
	demand(n <= uint64(len(r.left)))
	taken := r.left[:n]
	r.left = r.left[n:]
	return taken
}

func (r *rest) empty() bool {
	return len(r.left) == 0
}

// reader reads trees out of what is left.
type reader struct {
	rest
	deep int // lists that it stands in
}

// Get tells the tree whose bytes are b, all of them; ErrShape, if there is none.
func Get(b []byte) (t Tree, err api.Errno) {
	defer func() {
		if e := recover(); e != nil {
			t, err = Tree{}, e.(api.Errno)
		}
	}()
	r := reader{rest: rest{left: b}}
	t = r.tree()
	demand(r.empty())
	return t, api.OK
}

func demand(holds bool) {
	if !holds {
		panic(api.ErrShape)
	}
}

func (r *reader) tree() Tree {
	class, v := r.head()
	switch class {
	case classNumber:
		return Of(unfolded(v))
	case classBytes:
		return Tree{Kind: Bytes, Bytes: newRow(r.take(v))}
	case classList:
		return Tree{Kind: List, Kids: r.kids(v)}
	}
	panic(api.ErrShape)
}

// head reads a class and a value.
func (r *reader) head() (byte, uint64) {
	first := r.take(1)[0]
	class, low := first>>6, uint64(first&0x3f)
	if low <= maxInHead {
		return class, low
	}
	var v uint64
	behind := low - maxInHead
	for _, b := range r.take(behind) {
		v = v<<8 | uint64(b)
	}
	demand(headSize(v) == 1+int(behind)) // else fewer bytes would do
	return class, v
}

// kids reads so many trees, which stand in one more list.
func (r *reader) kids(count uint64) []Tree {
	r.deep++
	demand(r.deep <= maxDeep)
	kids := asOften(times(count), r.tree)
	r.deep--
	return kids
}

// asOften tells what read answers, as often as turns goes. No room is made ahead: turns may promise more than read finds.
func asOften[T any](turns iter.Seq[uint64], read func() T) []T {
	var all []T
	for range turns {
		all = append(all, read())
	}
	return all
}

func times(n uint64) iter.Seq[uint64] {
	return func(yield func(uint64) bool) {
		for i := range n {
			if !yield(i) {
				return
			}
		}
	}
}

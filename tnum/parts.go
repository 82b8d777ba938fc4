package tnum

import (
	"iter"

	"hatchway/api"
)

// places is by how many bits a word is moved.
type places int

// shifts tells what becomes of each part of a tnum, by the operations that shift. The map is made anew for each call: package level may hold no functions.
func shifts(by places) map[uint8]func(n uint64) uint64 {
	return map[uint8]func(n uint64) uint64{
		api.AluLsh:  by.left,
		api.AluRsh:  by.right,
		api.AluArsh: by.rightWithSign,
	}
}

func (by places) left(n uint64) uint64 {
	return n << by
}

func (by places) right(n uint64) uint64 {
	return n >> by
}

// rightWithSign fills with the highest bit: of a mask, too, since what is filled with a bit that is not known is not known.
func (by places) rightWithSign(n uint64) uint64 {
	return uint64(int64(n) >> by)
}

// cut leaves so many of the highest bits out.
func (by places) cut(n uint64) uint64 {
	return by.right(by.left(n))
}

// parts goes through a tnum's Value and Mask.
func parts(t *api.Tnum) iter.Seq[*uint64] {
	return func(yield func(*uint64) bool) {
		if yield(&t.Value) {
			yield(&t.Mask)
		}
	}
}

// changed tells t with the same done to its Value and its Mask: so each bit goes where it is known, or not known, as it was.
func changed(t api.Tnum, do func(n uint64) uint64) api.Tnum {
	for part := range parts(&t) {
		*part = do(*part)
	}
	return t
}

// joined joins, two by two, whatever may be joined of a row; false, if nothing may.
func joined[T any](may func(one T) bool, join func(a, b T) T, row ...T) (all T, ok bool) {
	for _, one := range row {
		switch {
		case !may(one):
		case ok:
			all = join(all, one)
		default:
			all, ok = one, true
		}
	}
	return all, ok
}

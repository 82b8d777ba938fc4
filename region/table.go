package region

import (
	"hatchway/api"
)

// table is things by numbers, from 1 on, none of which is given twice.
type table[T any] struct {
	last int
	rows map[int]T
}

func tableOf[T any]() table[T] {
	return table[T]{rows: map[int]T{}}
}

// add tells the number that x has from now on.
func (t *table[T]) add(x T) int {
	t.last++
	t.rows[t.last] = x
	return t.last
}

// find tells what stands at a number, if it is all that it must be; else nothing but the first error.
func (t *table[T]) find(number int, must ...func(T) api.Errno) (T, api.Errno) {
	var none T
	x, there := t.rows[number]
	if !there {
		return none, api.ErrNone
	}
	for _, ask := range must {
		if e := ask(x); e != api.OK {
			return none, e
		}
	}
	return x, api.OK
}

// drop keeps nothing of what stood at a number.
func (t *table[T]) drop(number int) {
	delete(t.rows, number)
}

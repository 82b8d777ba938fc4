package hash

import (
	"hatchway/api"
)

// demand panics with an error, unless something holds: what calls it goes on only with what may be.
func demand(holds bool, otherwise api.Errno) {
	if !holds {
		panic(otherwise)
	}
}

// tried tells OK, or the error that a call panicked with.
func tried(call func()) (err api.Errno) {
	defer func() {
		if e := recover(); e != nil {
			err = e.(api.Errno)
		}
	}()
	call()
	return api.OK
}

// caught tells what a call answers, or nothing but the error that it panicked with.
func caught[R any](call func() R) (result R, err api.Errno) {
	err = tried(func() { result = call() })
	return result, err
}

package book

import "lapworks/api"

// answer returns what ask finds, or the error with which it gave up.
func answer[T any](ask func() T) (found T, e api.Errno) {
	defer func() {
		switch cause := recover().(type) {
		case nil:
		case api.Errno:
			e = cause
		default:
			// Only require is meant to panic; if anything else does, the argument led to it.
			e = api.ErrArg
		}
	}()
	return ask(), api.OK
}

// require gives up with an error unless all is well.
func require(well bool, e api.Errno) {
	if !well {
		panic(e)
	}
}

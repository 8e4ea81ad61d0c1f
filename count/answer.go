package count

import "lapworks/api"

// answer returns what ask returns, or the error with which it gave up.
func answer[T any](ask func() T) (result T, e api.Errno) {
	defer func() {
		if cause := recover(); cause != nil {
			e = errorOf(cause)
		}
	}()
	return ask(), api.OK
}

// errorOf returns the error that a panic is about. Nothing but require is meant to panic; if anything else does, the argument led to it.
func errorOf(cause any) api.Errno {
	if e, ok := cause.(api.Errno); ok {
		return e
	}
	return api.ErrArg
}

// require gives the answer up with an error unless all is well.
func require(well bool, e api.Errno) {
	if !well {
		panic(e)
	}
}

// valid returns whether a count is valid.
func valid(c api.Count) bool {
	if c.Pairs < 1 || c.Pairs > api.CountPairs {
		return false
	}
	if len(c.Sheets) < 1 || len(c.Sheets) > api.CountSheets {
		return false
	}
	for _, sheet := range c.Sheets {
		if len(sheet) > api.CountPassings || !numbered(c.Pairs, sheet...) {
			return false
		}
	}
	return true
}

// numbered returns whether each of the numbers is one of so many things that are numbered from 0.
func numbered(things int, numbers ...int) bool {
	for _, n := range numbers {
		if n < 0 || n >= things {
			return false
		}
	}
	return true
}

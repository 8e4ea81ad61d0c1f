package rest

import "lapworks/api"

// told returns what is told of all right plans together, if there is one, and what else is asked for is in its range.
func told[T any](r api.Rest, inRange bool, q question[T]) (T, api.Errno) {
	return answer(func() T {
		h := hoursOf(r)
		require(inRange, api.ErrRange)
		t, found := ask(h, q)
		require(found, api.ErrNone)
		return t
	})
}

// answer returns what ask finds, or the error with which it gave up.
func answer[T any](ask func() T) (found T, e api.Errno) {
	defer func() {
		switch cause := recover().(type) {
		case nil:
		case api.Errno:
			e = cause
		default:
			// Only require is meant to panic; if anything else does, the argument led to it.
			e = api.ErrArg
		}
	}()
	return ask(), api.OK
}

// require gives up with an error unless all is well.
func require(well bool, e api.Errno) {
	if !well {
		panic(e)
	}
}

// valid returns whether a rest is valid.
func valid(r api.Rest) bool {
	if !areMany(r.Hours) {
		return false
	}
	for _, limits := range r.Riders {
		if limits.Out < 0 || limits.Out >= 1<<r.Hours || !areMany(limits.Total, limits.Run, limits.Off) {
			return false
		}
	}
	return true
}

// areMany returns whether there can be as many hours as each of some numbers.
func areMany(numbers ...int) bool {
	for _, n := range numbers {
		if n < 0 || n > api.RestHours {
			return false
		}
	}
	return true
}

// isRider returns whether a number is one of a rider.
func isRider(rider int) bool { return rider == 0 || rider == 1 }

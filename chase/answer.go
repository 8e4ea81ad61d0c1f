package chase

import "lapworks/api"

// told returns what is told of the field of a chase, if the chase is valid, what else is asked for is in its range, and there is a truth.
func told[T any](c api.Chase, inRange bool, tell func(f field) T) (T, api.Errno) {
	return answer(func() T {
		require(valid(c), api.ErrArg)
		require(inRange, api.ErrRange)
		f := fieldOf(c)
		require(f.canBe(), api.ErrClash)
		return tell(f)
	})
}

// answer returns what ask finds, or the error with which it gave up.
func answer[T any](ask func() T) (found T, e api.Errno) {
	defer func() {
		switch cause := recover().(type) {
		case nil:
		case api.Errno:
			e = cause
		default:
			// Only require is meant to panic; if anything else does, the argument led to it.
			e = api.ErrArg
		}
	}()
	return ask(), api.OK
}

// require gives up with an error unless all is well.
func require(well bool, e api.Errno) {
	if !well {
		panic(e)
	}
}

// valid returns whether a chase is valid.
func valid(c api.Chase) bool {
	if !within(c.Error, 0, api.ChaseError) || !within(len(c.Pairs), 1, api.ChasePairs) || !within(c.Final, 1, len(c.Pairs)) {
		return false
	}
	for _, told := range c.Pairs {
		if !within(len(told), 1, api.ChaseWatches) {
			return false
		}
		for _, time := range told {
			if !within(time, 0, api.ChaseTime) {
				return false
			}
		}
	}
	return true
}

// isPair returns whether a number is one of a pair.
func isPair(c api.Chase, pair int) bool { return within(pair, 0, len(c.Pairs)-1) }

// within returns whether a number is from one number to another one.
func within(n, from, to int) bool { return n >= from && n <= to }

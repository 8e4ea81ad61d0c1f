package board

import (
	"lapworks/api"
	"lapworks/count"
	"lapworks/sprint"
)

// told returns what is told of a board, if the board is valid, what else is asked for is in its range, and there is a truth.
func told[T any](b api.Board, inRange bool, tell func(t table) T) (T, api.Errno) {
	return answer(func() T {
		_, counted := count.Fewest(b.Count)
		_, _, seen := sprint.Sure(b.Sprints)
		require(counted != api.ErrArg && seen != api.ErrArg && b.Count.Pairs == b.Sprints.Pairs, api.ErrArg)
		require(inRange, api.ErrRange)
		// What is left is that there is no truth.
		require(counted == api.OK, counted)
		require(seen == api.OK, seen)
		return tell(tableOf(b))
	})
}

// answer returns what ask finds, or the error with which it gave up.
func answer[T any](ask func() T) (found T, e api.Errno) {
	defer func() {
		switch cause := recover().(type) {
		case nil:
		case api.Errno:
			e = cause
		default:
			// Only require is meant to panic; if anything else does, the argument led to it.
			e = api.ErrArg
		}
	}()
	return ask(), api.OK
}

// require gives up with an error unless all is well.
func require(well bool, e api.Errno) {
	if !well {
		panic(e)
	}
}

// must returns the result of another layer, or gives up with its error.
func must[T any](result T, e api.Errno) T {
	require(e == api.OK, e)
	return result
}

// isPair returns whether a number is one of a pair.
func isPair(b api.Board, pair int) bool { return pair >= 0 && pair < b.Count.Pairs }

// areTwo returns whether two numbers are those of two pairs that differ.
func areTwo(b api.Board, pair, other int) bool {
	return isPair(b, pair) && isPair(b, other) && pair != other
}

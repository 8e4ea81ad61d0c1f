package relay

import "lapworks/api"

// told returns what ask tells by the table of valid relays that have a truth, if what else is asked for is in its range.
func told[T any](r api.Relays, inRange bool, ask func(t *table) T) (T, api.Errno) {
	return answer(func() T {
		require(valid(r), api.ErrArg)
		require(inRange, api.ErrRange)
		n := notesOf(r)
		return ask(n.table(n.all()))
	})
}

// blamed returns the fewest entries, of valid relays without a truth, that are enough, of several sets the least number.
func blamed(r api.Relays, enough func(c clashes, set int) bool) (entries int, e api.Errno) {
	return answer(func() int {
		require(valid(r), api.ErrArg)
		n := notesOf(r)
		require(!n.canBe(n.all()), api.ErrNone)
		c := n.clashes()
		s := search{len(c), func(set int) bool { return enough(c, set) }}
		return s.fewest()
	})
}

// answer returns what ask finds, or the error with which it gave up.
func answer[T any](ask func() T) (found T, e api.Errno) {
	defer func() {
		switch cause := recover().(type) {
		case nil:
		case api.Errno:
			e = cause
		default:
			// Nothing but an error code is meant to get here; if anything else does, the argument led to it.
			e = api.ErrArg
		}
	}()
	return ask(), api.OK
}

// require gives up with an error unless all is well.
func require(well bool, e api.Errno) {
	if !well {
		panic(e)
	}
}

// valid returns whether relays are valid.
func valid(r api.Relays) bool {
	if r.Rest < 0 || r.Rest > api.RelayRest || len(r.Stints) > api.RelayStints {
		return false
	}
	for _, s := range r.Stints {
		if s.Rider != 0 && s.Rider != 1 {
			return false
		}
		for judge := range judges {
			if !areMinutes(s.On[judge].Lo, s.On[judge].Hi) || !areMinutes(s.Off[judge].Lo, s.Off[judge].Hi) {
				return false
			}
		}
	}
	return true
}

// areMinutes returns whether two numbers are minutes, the first one no later than the second one.
func areMinutes(from, to int) bool {
	return 0 <= from && from <= to && to <= api.RelayMinutes
}

// isStint returns whether a number is one of a stint.
func isStint(r api.Relays, stint int) bool {
	return stint >= 0 && stint < len(r.Stints)
}

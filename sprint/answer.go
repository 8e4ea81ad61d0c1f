package sprint

import "lapworks/api"

// answer returns what ask finds, or the error with which it gave up.
func answer[T any](ask func() T) (found T, e api.Errno) {
	defer func() {
		switch cause := recover().(type) {
		case nil:
		case api.Errno:
			e = cause
		default:
			// Only require is meant to panic; if anything else does, the argument led to it.
			e = api.ErrArg
		}
	}()
	return ask(), api.OK
}

// require gives up with an error unless all is well.
func require(well bool, e api.Errno) {
	if !well {
		panic(e)
	}
}

// valid returns whether sprints are valid.
func valid(s api.Sprints) bool {
	if s.Pairs < 1 || s.Pairs > api.SprintPairs || len(s.List) > api.SprintList || !validPoints(s.Points) {
		return false
	}
	for _, sprint := range s.List {
		if !validSprint(s.Pairs, sprint) {
			return false
		}
	}
	return true
}

// validPoints returns whether points of places are valid.
func validPoints(list []int) bool {
	if len(list) > api.SprintPairs {
		return false
	}
	most := api.SprintPoints
	for _, n := range list {
		if n < 0 || n > most {
			return false
		}
		most = n
	}
	return true
}

// validSprint returns whether a sprint of so many pairs is valid.
func validSprint(pairs int, s api.Sprint) bool {
	if len(s.Ahead) > api.SprintAhead || len(s.Places) > api.SprintPlaces {
		return false
	}
	for _, a := range s.Ahead {
		if !duelOf(a).isOf(pairs) {
			return false
		}
	}
	for _, p := range s.Places {
		if !numbered(pairs, p.Pair) || p.Place.Lo < 0 || p.Place.Lo > p.Place.Hi || p.Place.Hi >= pairs {
			return false
		}
	}
	return true
}

// numbered returns whether a number is that of one of so many things.
func numbered(things, number int) bool {
	return number >= 0 && number < things
}

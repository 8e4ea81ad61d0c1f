package field

import "lapworks/api"

// answer returns what ask finds, or the error with which it gave up.
func answer[T any](ask func() T) (found T, e api.Errno) {
	defer func() {
		switch cause := recover().(type) {
		case nil:
		case api.Errno:
			e = cause
		default:
			// Only require is meant to panic; if anything else does, the argument led to it.
			e = api.ErrArg
		}
	}()
	return ask(), api.OK
}

// require gives up with an error unless all is well.
func require(well bool, e api.Errno) {
	if !well {
		panic(e)
	}
}

// valid returns whether a field is valid.
func valid(f api.Field) bool {
	if f.Track < api.FieldLeast || f.Track > api.FieldTrack || f.Pairs != 2 && f.Pairs != api.FieldPairs {
		return false
	}
	if len(f.Rides) > api.FieldRides || len(f.Sights) > api.FieldSights {
		return false
	}
	for _, ride := range f.Rides {
		if !validRide(f.Pairs, ride) {
			return false
		}
	}
	for _, s := range f.Sights {
		if !validSight(f, s) {
			return false
		}
	}
	return true
}

// validRide returns whether there is a valid span for each of so many pairs.
func validRide(pairs int, ride []api.Span) bool {
	if len(ride) != pairs {
		return false
	}
	for _, s := range ride {
		if !within(s, api.FieldRide) || s.Hi-s.Lo > api.FieldWide {
			return false
		}
	}
	return true
}

// validSight returns whether a sight is valid in a field.
func validSight(f api.Field, s api.FieldSight) bool {
	return isMoment(f, s.Moment) && duel{s.Pair, s.Other}.isOf(f.Pairs) && within(s.Gap, f.Track-1)
}

// within returns whether a span is valid within 0 to a number.
func within(s api.Span, most int) bool {
	return 0 <= s.Lo && s.Lo <= s.Hi && s.Hi <= most
}

// isMoment returns whether a number is one of a moment.
func isMoment(f api.Field, moment int) bool {
	return moment >= 0 && moment <= len(f.Rides)
}

// isPair returns whether a number is one of so many pairs.
func isPair(pairs, pair int) bool {
	return pair >= 0 && pair < pairs
}

package relay

import "lapworks/api"

// question is what is asked of minutes.
type question struct{ is func(minute int) bool }

// first returns the first of some minutes of which it is so. It gives up if there is none.
func (q question) first(from, to int) int {
	for minute := from; minute <= to; minute++ {
		if q.is(minute) {
			return minute
		}
	}
	panic(api.ErrNone)
}

// empty returns whether in each truth nobody is on the track in a minute, in any of so many stints. A stint that can begin by then, and can end later, can do both: the one does not keep the other from it.
func (t *table) empty(stints, minute int) bool {
	for stint := range stints {
		if t.minutes(on(stint)).Lo <= minute && minute < t.minutes(off(stint)).Hi {
			return false
		}
	}
	return true
}

// canBeEmpty returns whether in some truth nobody is on the track in a minute, in any of so many stints. Stints begin one after the other, so that some of them, the first ones, have ended then, and the others have yet to begin. If the former can have ended, and the latter can begin later, they can do both: nothing keeps what comes later from being as late as it can.
func (t *table) canBeEmpty(stints, minute int) bool {
	for stint := range stints {
		if t.minutes(on(stint)).Hi > minute {
			return true
		}
		if t.minutes(off(stint)).Lo > minute {
			return false
		}
	}
	return true
}

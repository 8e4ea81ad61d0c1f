package mate

import (
	"lapworks/api"
	"lapworks/rest"
)

// told returns what is told of mates, if they are valid, and what is asked for is in its range.
func told[T any](m api.Mates, inRange bool, tell func(c crowd) T) (found T, e api.Errno) {
	defer func() {
		switch cause := recover().(type) {
		case nil:
		case api.Errno:
			e = cause
		default:
			// Only require is meant to panic; if anything else does, the argument led to it.
			e = api.ErrArg
		}
	}()
	require(areValid(m), api.ErrArg)
	require(inRange, api.ErrRange)
	return tell(crowdOf(m)), api.OK
}

// require gives up with an error unless all is well.
func require(well bool, e api.Errno) {
	if !well {
		panic(e)
	}
}

// areValid returns whether mates are valid.
func areValid(m api.Mates) bool {
	if !upTo(api.MateHours, m.Hours) || !upTo(api.MateSpeed, m.Apart) || len(m.People) > api.MatePeople {
		return false
	}
	for number, person := range m.People {
		others := setOf(len(m.People)) &^ one(number)
		if !isSpeed(person.Speed) || !isRider(m.Hours, person.Rider) || set(person.Not)&^others != 0 {
			return false
		}
	}
	return true
}

// isSpeed returns whether somebody can be known to be so fast.
func isSpeed(s api.Span) bool { return s.Lo >= 0 && s.Lo <= s.Hi && s.Hi <= api.MateSpeed }

// isRider returns whether a rider is valid in a rest of so many hours.
func isRider(hours int, r api.RestRider) bool {
	// What is told of the plan is no matter: the rest has to be valid first.
	_, _, e := rest.Check(api.Rest{Hours: hours, Riders: [2]api.RestRider{r, r}}, nil)
	return e != api.ErrArg
}

// areTwo returns whether two numbers are those of two people.
func areTwo(m api.Mates, a, b int) bool { return isPerson(m, a) && isPerson(m, b) && a != b }

// isPerson returns whether a number is that of a person.
func isPerson(m api.Mates, number int) bool { return number >= 0 && number < len(m.People) }

// upTo returns whether a number is from 0 to another one.
func upTo(most, number int) bool { return number >= 0 && number <= most }

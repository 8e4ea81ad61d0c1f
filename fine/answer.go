package fine

import "lapworks/api"

// told returns what is told of fines, if they are valid, and what is asked for is in its range.
func told[T any](f api.Fines, inRange bool, tell func(l ledger) T) (found T, e api.Errno) {
	defer func() {
		switch cause := recover().(type) {
		case nil:
		case api.Errno:
			e = cause
		default:
			// Only require is meant to panic; if anything else does, the argument led to it.
			e = api.ErrArg
		}
	}()
	require(isValid(f), api.ErrArg)
	require(inRange, api.ErrRange)
	return tell(ledger{f}), api.OK
}

// require gives up with an error unless all is well.
func require(well bool, e api.Errno) {
	if !well {
		panic(e)
	}
}

// isValid returns whether fines are valid.
func isValid(f api.Fines) bool {
	if len(f.Rules) > api.FineRules || len(f.List) > api.FineList {
		return false
	}
	if f.Riders != 2 && f.Riders != 4 && f.Riders != api.FineRiders {
		return false
	}
	for _, rule := range f.Rules {
		if !isRule(rule) {
			return false
		}
	}
	for _, offence := range f.List {
		if !isOffence(f, offence) {
			return false
		}
	}
	return true
}

// isRule returns whether a rule is valid.
func isRule(r api.FineRule) bool {
	return upTo(api.FineCoins, r.Base) && upTo(api.FineCoins, r.Step) && upTo(api.FineCoins, r.Most) && upTo(api.FineHour, r.Window)
}

// isOffence returns whether an offence is valid.
func isOffence(f api.Fines, o api.Offence) bool {
	return numbered(len(f.Rules), o.Kind) && o.Riders > 0 && numbered(1<<f.Riders, o.Riders) &&
		o.Hours.Lo >= 0 && o.Hours.Lo <= o.Hours.Hi && o.Hours.Hi <= api.FineHour && o.Hours.Hi-o.Hours.Lo <= api.FineWide
}

// isKnown returns whether there are a rider and an hour for each offence.
func isKnown(f api.Fines, riders, hours []int) bool {
	if len(riders) != len(f.List) || len(hours) != len(f.List) {
		return false
	}
	for offence := range f.List {
		if !isRider(f, riders[offence]) || !upTo(api.FineHour, hours[offence]) {
			return false
		}
	}
	return true
}

// isRider returns whether a number is that of a rider.
func isRider(f api.Fines, number int) bool { return numbered(f.Riders, number) }

// numbered returns whether a number is that of one of so many things.
func numbered(things, number int) bool { return number >= 0 && number < things }

// upTo returns whether a number is from 0 to another one.
func upTo(most, number int) bool { return number >= 0 && number <= most }

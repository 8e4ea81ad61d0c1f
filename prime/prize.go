package prime

import "lapworks/api"

// prize is what a prime is given for.
type prize interface {
	// sharers returns the set of the pairs that share the purse if the sprint ends in an order.
	sharers(o order) int
}

// prizeOf returns what a valid prime is given for.
func prizeOf(p api.Prime) prize {
	at := onPlace{p.Place}
	switch p.Kind {
	case api.PrimeIf:
		return byPair{upTo{at}, p.Pair}
	case api.PrimeShare:
		return upTo{at}
	default:
		return at
	}
}

// onPlace is given for a place.
type onPlace struct{ place int }

func (a onPlace) sharers(o order) int { return setOf(o[a.place]) }

// upTo is given for a place and all places before it.
type upTo struct{ onPlace }

func (u upTo) sharers(o order) int { return setOf(o[:u.place+1]...) }

// byPair is given for the same places, but to one pair alone.
type byPair struct {
	upTo
	pair int
}

func (b byPair) sharers(o order) int { return b.upTo.sharers(o) & setOf(b.pair) }

// setOf returns the set of some pairs.
func setOf(pairs ...int) int {
	set := 0
	for _, pair := range pairs {
		set |= 1 << pair
	}
	return set
}

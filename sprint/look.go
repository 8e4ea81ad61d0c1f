package sprint

import (
	"math/bits"
	"slices"

	"lapworks/api"
)

// order is the pairs by their places in a sprint.
type order []int

// place returns the place of a pair.
func (o order) place(pair int) int { return slices.Index(o, pair) }

// look is a sprint that is looked at.
type look struct {
	api.Sprint
	pairs int
	// places is, for each pair, the set of the places on which it was seen, and before that of the pairs that were seen ahead of it.
	places, before [api.SprintPairs]int
	// ways tells in how many ways all others can come behind a set of pairs that have come.
	ways func(come int) int
}

// lookOf returns the look at a valid sprint of so many pairs.
func lookOf(pairs int, s api.Sprint) look {
	l := look{Sprint: s, pairs: pairs}
	for pair := range pairs {
		l.places[pair] = 1<<pairs - 1
	}
	for _, p := range l.Places {
		l.places[p.Pair] &= 1<<(p.Place.Hi+1) - 1<<p.Place.Lo
	}
	for _, a := range l.Ahead {
		l.before[a[1]] |= 1 << a[0]
	}
	l.ways = waysOf(pairs, l.comes)
	return l
}

// lookAt returns the look at a sprint. It requires that the sprints are valid, then that the sprint is one and what else is asked for is in its range.
func lookAt(s api.Sprints, sprint int, inRange bool) look {
	require(valid(s), api.ErrArg)
	require(inRange && numbered(len(s.List), sprint), api.ErrRange)
	return lookOf(s.Pairs, s.List[sprint])
}

// endedAt returns what lookAt does, and requires then that the sprint can have ended in some order.
func endedAt(s api.Sprints, sprint int, inRange bool) look {
	l := lookAt(s, sprint, inRange)
	require(l.count() > 0, api.ErrClash)
	return l
}

// comes returns whether a pair can come next, behind a set of pairs that have come.
func (l look) comes(come, pair int) bool {
	place := bits.OnesCount(uint(come))
	return come>>pair&1 == 0 && l.before[pair]&^come == 0 && l.places[pair]>>place&1 == 1
}

// waysOf returns what tells in how many ways the others of so many pairs can come behind a set of those that have come, if it is known who can come next.
func waysOf(pairs int, comes func(come, pair int) bool) func(come int) int {
	known := map[int]int{1<<pairs - 1: 1}
	var ways func(come int) int
	ways = func(come int) int {
		if n, found := known[come]; found {
			return n
		}
		sum := 0
		for pair := range pairs {
			if comes(come, pair) {
				sum += ways(come | 1<<pair)
			}
		}
		known[come] = sum
		return sum
	}
	return ways
}

// count returns in how many orders the sprint can have ended.
func (l look) count() int { return l.ways(0) }

// orders yields the orders in which the sprint can have ended, the first one first, all of them in the same memory.
func (l look) orders(yield func(order) bool) {
	o := make(order, 0, l.pairs)
	var follow func(come int) bool
	follow = func(come int) bool {
		if len(o) == l.pairs {
			return yield(o)
		}
		for pair := range l.pairs {
			next := come | 1<<pair
			// What leads to no order need not be followed.
			if !l.comes(come, pair) || l.ways(next) == 0 {
				continue
			}
			o = append(o, pair)
			if !follow(next) {
				return false
			}
			o = o[:len(o)-1]
		}
		return true
	}
	follow(0)
}

// first returns the first order in which the sprint can have ended, if there is one.
func (l look) first() order {
	for o := range l.orders {
		return slices.Clone(o)
	}
	return nil
}

// placesOf returns the set of the places that a pair has in some order.
func (l look) placesOf(pair int) int {
	set := 0
places:
	for place := range l.pairs {
		for o := range l.orders {
			if o[place] == pair {
				set |= 1 << place
				continue places
			}
		}
	}
	return set
}

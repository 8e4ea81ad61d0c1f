package chase

import (
	"slices"

	"lapworks/api"
)

// order is the pairs by their places.
type order []int

// places is the place of each pair.
type places [api.ChasePairs]int

// of returns the place of a pair.
func (p places) of(pair int) int { return p[pair] }

// places returns the place of each pair in the order.
func (o order) places() places {
	var p places
	for place, pair := range o {
		p[pair] = place
	}
	return p
}

// orders yields the orders that truths have, the lexicographically first one first, all of them in the same memory.
func (f field) orders(yield func(o order) bool) {
	var goOn func(come order, left []times) bool
	goOn = func(come order, left []times) bool {
		if len(left) == 0 {
			return yield(come)
		}
	pairs:
		for i, next := range left {
			behind := slices.Delete(slices.Clone(left), i, i+1)
			for j, other := range behind {
				if !next.canLead(other) {
					continue pairs
				}
				// The next one comes as soon as it can: so the others keep all times that they can have behind it.
				behind[j] = other.behind(next)
			}
			if !goOn(append(come, next.pair), behind) {
				return false
			}
		}
		return true
	}
	goOn(make(order, 0, len(f.all)), f.all)
}

// many returns how many orders there are.
func (f field) many() int {
	n := 0
	for range f.orders {
		n++
	}
	return n
}

// first returns the first order.
func (f field) first() order {
	for o := range f.orders {
		return slices.Clone(o)
	}
	return nil
}

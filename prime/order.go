package prime

import (
	"iter"
	"slices"

	"lapworks/api"
)

// order is the pairs by their places in a sprint.
type order []int

// ordersOf returns an iterator over the orders in which a sprint of so many pairs can have ended.
func ordersOf(pairs int, s api.Sprint) iter.Seq[order] {
	return func(yield func(o order) bool) {
		var goOn func(come order) bool
		goOn = func(come order) bool {
			if len(come) == pairs {
				return yield(come)
			}
		next:
			for pair := range pairs {
				if slices.Contains(come, pair) {
					continue
				}
				for _, a := range s.Ahead {
					if a[1] == pair && !slices.Contains(come, a[0]) {
						continue next
					}
				}
				for _, p := range s.Places {
					if p.Pair == pair && (len(come) < p.Place.Lo || len(come) > p.Place.Hi) {
						continue next
					}
				}
				// Each order gets memory of its own, so that whoever takes it can keep it.
				if !goOn(append(slices.Clone(come), pair)) {
					return false
				}
			}
			return true
		}
		goOn(nil)
	}
}

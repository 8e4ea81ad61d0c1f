package board

import (
	"iter"
	"slices"

	"lapworks/api"
)

// order returns all pairs, each behind those that surely are ahead of it. It gives up unless of each two pairs one surely is.
func (t table) order() []int {
	all := t.ranks()
	order := make([]int, t.pairs())
	for pair, rank := range all[:t.pairs()] {
		// A pair that is neither surely ahead of some other one nor surely behind it has a rank more than one.
		require(rank.Lo == rank.Hi, api.ErrDoubt)
		order[rank.Lo] = pair
	}
	return order
}

// choice is how many orders there can be, and the first one of them.
type choice struct {
	many  int
	first []int
}

// choice returns in how many orders the pairs can be, as far as it is sure who is ahead of whom.
func (t table) choice() choice {
	var c choice
	for order := range orders(t.pairs(), t.surely) {
		if c.many == 0 {
			c.first = slices.Clone(order)
		}
		c.many++
	}
	return c
}

// orders returns an iterator over the lists of so many pairs, each once, in which nobody comes before one who is ahead of it. The lexicographically first one comes first, and all of them in the same memory.
func orders(pairs int, ahead func(pair, other int) bool) iter.Seq[[]int] {
	return func(yield func(order []int) bool) {
		var goOn func(come, left []int) bool
		goOn = func(come, left []int) bool {
			if len(left) == 0 {
				return yield(come)
			}
		next:
			for i, pair := range left {
				behind := slices.Delete(slices.Clone(left), i, i+1)
				for _, other := range behind {
					if ahead(other, pair) {
						continue next
					}
				}
				if !goOn(append(come, pair), behind) {
					return false
				}
			}
			return true
		}
		var all []int
		for pair := range pairs {
			all = append(all, pair)
		}
		goOn(make([]int, 0, pairs), all)
	}
}

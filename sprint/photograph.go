package sprint

import (
	"cmp"
	"slices"
)

// photograph is of two pairs: if it shows which of them was ahead, at most so many orders are left.
type photograph struct {
	duel
	most int
}

// best returns the photograph that leaves the fewest orders, of several the first one. There have to be two pairs.
func (l look) best() photograph {
	ahead := l.ahead()
	var all []photograph
	for first := range l.pairs {
		for second := first + 1; second < l.pairs; second++ {
			d := duel{first, second}
			all = append(all, photograph{d, max(ahead[d], ahead[d.turned()])})
		}
	}
	return slices.MinFunc(all, func(a, b photograph) int { return cmp.Compare(a.most, b.most) })
}

// ahead returns, for each two pairs, in how many orders the first one is ahead of the second one.
func (l look) ahead() map[duel]int {
	many := map[duel]int{}
	for o := range l.orders {
		for place, first := range o {
			for _, second := range o[place+1:] {
				many[duel{first, second}]++
			}
		}
	}
	return many
}

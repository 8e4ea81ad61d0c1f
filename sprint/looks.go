package sprint

import "lapworks/api"

// looks is the looks at all sprints.
type looks []look

// allOf returns the looks at all sprints. It requires that they are valid, then that what else is asked for is in its range, then that each of them can have ended in some order.
func allOf(s api.Sprints, inRange bool) looks {
	require(valid(s), api.ErrArg)
	require(inRange, api.ErrRange)
	var all looks
	for _, sprint := range s.List {
		l := lookOf(s.Pairs, sprint)
		require(l.count() > 0, api.ErrClash)
		all = append(all, l)
	}
	return all
}

// ends returns the ends of what is asked of all sprints together. Any orders of them go together, so that their ends do.
func (all looks) ends(q asked) ends[int] {
	var each []ends[int]
	for _, l := range all {
		n := l.ends(q)
		each = append(each, n)
		if l.Double {
			each = append(each, n)
		}
	}
	return joined(ends[int].plus, ends[int]{}, each...)
}

// standing is the set of the pairs that surely have the most points, and that of those that surely have not.
type standing struct{ most, beaten int }

// standing returns the standing of so many pairs, if places get such prizes.
func (all looks) standing(pairs int, p prizes) standing {
	s := standing{most: 1<<pairs - 1}
	for pair := range pairs {
		for other := range pairs {
			if other == pair {
				continue
			}
			ahead := all.ends(margin{p, duel{pair, other}}).least
			if ahead < 0 {
				s.most &^= 1 << pair
			}
			if ahead > 0 {
				s.beaten |= 1 << other
			}
		}
	}
	return s
}

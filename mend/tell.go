package mend

import (
	"math/bits"
	"slices"

	"lapworks/api"
)

// times returns when each job of an order is done.
func (s shop) times(order []int) []api.Span {
	var all []api.Span
	for _, w := range s.along(order) {
		all = append(all, w.done.span())
	}
	return all
}

// wrong returns the first fault of an order. It gives up if there is none.
func (s shop) wrong(order []int) fault {
	f, found := s.fault(order)
	require(found, api.ErrNone)
	return f
}

// slack returns by how much all jobs may take longer by an order. It gives up if the order is not right.
func (s shop) slack(order []int) int {
	require(s.isRight(order), api.ErrNone)
	more := 0
	for more < api.MendLong && s.longer(more+1).isRight(order) {
		more++
	}
	return more
}

// longer returns the shop if each job can take so many minutes more.
func (s shop) longer(minutes int) shop {
	s.Jobs = slices.Clone(s.Jobs)
	for i := range s.Jobs {
		s.Jobs[i].Minutes.Hi += minutes
	}
	return s
}

// count returns how many orders are right.
func (s shop) count() int { return s.outlook(start(0)).orders }

// possible returns the outlook of all jobs. It gives up if no order is right.
func (s shop) possible() outlook {
	o := s.outlook(start(0))
	require(o.orders > 0, api.ErrNone)
	return o
}

// first returns the set of the jobs that can come first.
func (s shop) first() int {
	jobs := 0
	for w := range s.next(start(0)) {
		if s.outlook(s.after(w)).orders > 0 {
			jobs |= 1 << w.job
		}
	}
	return jobs
}

// drop returns the set of the fewest jobs without which an order of all others is right.
func (s shop) drop() int {
	var sets []int
	for left := range s.all() + 1 {
		if s.outlook(start(left)).orders > 0 {
			sets = append(sets, left)
		}
	}
	// Nothing has to be done if all are left, so that there is such a set.
	return least(sets, scale[int]{func(set int) int { return bits.OnesCount(uint(set)) }})
}

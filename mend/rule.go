package mend

import "lapworks/api"

// rule is what an order can break at a job.
type rule interface {
	number() int
	brokenBy(w work) bool
}

// rules returns all rules, the least number first.
func (s shop) rules() []rule { return []rule{inOrder{s}, inTime{s.late}} }

// inOrder is that a job comes after all those of its After.
type inOrder struct{ shop }

func (inOrder) number() int { return api.MendAfter }

func (o inOrder) brokenBy(w work) bool { return o.Jobs[w.job].After&^w.jobs != 0 }

// inTime is that a job is not late.
type inTime struct{ late func(w work) bool }

func (inTime) number() int { return api.MendLate }

func (t inTime) brokenBy(w work) bool { return t.late(w) }

// late returns whether a job can be done later than in the minute in which it must be done.
func (s shop) late(w work) bool { return w.done.most() > s.Jobs[w.job].By }

// fault is a rule that an order breaks at a job.
type fault struct{ job, rule int }

// fault returns the first fault of an order, and whether it has one.
func (s shop) fault(order []int) (first fault, found bool) {
	for _, w := range s.along(order) {
		for _, r := range s.rules() {
			if r.brokenBy(w) {
				return fault{w.job, r.number()}, true
			}
		}
	}
	return fault{}, false
}

// isRight returns whether an order breaks no rule.
func (s shop) isRight(order []int) bool {
	_, wrong := s.fault(order)
	return !wrong
}

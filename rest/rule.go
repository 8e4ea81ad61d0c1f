package rest

import "lapworks/api"

// rule is one that a plan keeps in each hour, or breaks.
type rule interface {
	// brokenBy returns whether a ride of a rider with such limits breaks it.
	brokenBy(r ride, limits api.RestRider) bool
}

// closed is the rule that nobody rides in hours in which they cannot.
type closed struct{}

func (closed) brokenBy(r ride, limits api.RestRider) bool { return limits.Out>>r.hour()&1 == 1 }

// excess is the rule that there are not more hours of something than there can be, nor fewer than there have to be: it tells how many too many there are, or too few.
type excess func(r ride, limits api.RestRider) int

func (x excess) brokenBy(r ride, limits api.RestRider) bool { return x(r, limits) > 0 }

// rules returns all rules, by their numbers less 1.
func rules() [4]rule {
	return [...]rule{
		api.RestOut - 1:   closed{},
		api.RestTotal - 1: excess(func(r ride, limits api.RestRider) int { return r.totals[r.rider] - limits.Total }),
		api.RestRun - 1:   excess(func(r ride, limits api.RestRider) int { return r.run - limits.Run }),
		api.RestOff - 1: excess(func(r ride, limits api.RestRider) int {
			if !r.returns() {
				return 0
			}
			return limits.Off - r.before.run
		}),
	}
}

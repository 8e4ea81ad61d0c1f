package rest

import (
	"iter"

	"lapworks/api"
)

// hours is a valid rest, whose hours are planned.
type hours struct{ api.Rest }

// hoursOf returns the hours of a rest. It requires that the rest is valid.
func hoursOf(r api.Rest) hours {
	require(valid(r), api.ErrArg)
	return hours{r}
}

// arePlanned returns whether a list is a plan for all hours.
func (h hours) arePlanned(list []int) bool {
	for _, rider := range list {
		if !isRider(rider) {
			return false
		}
	}
	return len(list) == h.Hours
}

// fault is the hour in which a plan breaks a rule, and the rule. Without a fault there is none, which is 0.
type fault struct{ hour, rule int }

// fault returns the first fault of a plan.
func (h hours) fault(plan []int) fault {
	var first fault
rides:
	for r := range ridesBy(plan) {
		for i, rule := range rules() {
			if rule.brokenBy(r, h.Riders[r.rider]) {
				first = fault{r.hour(), i + 1}
				break rides
			}
		}
	}
	return first
}

// rides yields each ride of the next hour that breaks no rule, that of the rider 0 first.
func (h hours) rides(at ridden) iter.Seq[ride] {
	return func(yield func(ride) bool) {
	riders:
		for rider, limits := range h.Riders {
			r := at.ride(rider)
			for _, rule := range rules() {
				if rule.brokenBy(r, limits) {
					continue riders
				}
			}
			if !yield(r) {
				return
			}
		}
	}
}

// plans returns how many plans are right.
func (h hours) plans() int {
	many, _ := ask(h, number())
	return many
}

// endAt returns whether no right plan goes on through an hour.
func (h hours) endAt(hour int) bool {
	h.Hours = hour + 1
	return h.plans() == 0
}

// out is an hour in which a rider cannot ride.
type out struct{ rider, hour int }

// hindrance returns the first out without which a plan would be right, and whether there is one.
func (h hours) hindrance() (first out, found bool) {
	for o := range h.outs {
		if h.without(o).plans() > 0 {
			return o, true
		}
	}
	return out{}, false
}

// outs yields all outs, those of the rider 0 first.
func (h hours) outs(yield func(out) bool) {
	for rider, limits := range h.Riders {
		for hour := range h.Hours {
			if limits.Out>>hour&1 == 1 && !yield(out{rider, hour}) {
				return
			}
		}
	}
}

// without returns the hours if an out were none.
func (h hours) without(o out) hours {
	h.Riders[o.rider].Out &^= 1 << o.hour
	return h
}

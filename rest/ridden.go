package rest

import (
	"iter"
	"slices"
)

// stint is who rides, and for how many hours without a break.
type stint struct{ rider, run int }

// ridden is what riders have done so far: who rode last, and how many hours each of them has ridden in all. In each hour one of them rides, so that the other one is off just as long as this one's stint is.
type ridden struct {
	stint
	totals [2]int
}

// hours returns how many hours were ridden.
func (d ridden) hours() int { return d.totals[0] + d.totals[1] }

// then returns what riders have done once one of them has ridden one hour more.
func (d ridden) then(rider int) ridden {
	if rider != d.rider {
		d.stint = stint{rider: rider}
	}
	d.run++
	d.totals[rider]++
	return d
}

// ride returns that one of the riders rides in the next hour.
func (d ridden) ride(rider int) ride { return ride{d.then(rider), d} }

// ride is an hour that a rider rides: what riders have done then, and what they had done before.
type ride struct {
	ridden
	before ridden
}

// hour returns in which hour this is.
func (r ride) hour() int { return r.before.hours() }

// changes returns whether another one rode before.
func (r ride) changes() bool { return r.hour() > 0 && r.rider != r.before.rider }

// returns returns whether the rider comes back, having been off.
func (r ride) returns() bool { return r.changes() && r.before.totals[r.rider] > 0 }

// ridesBy yields the rides of a plan, one after the other.
func ridesBy(plan []int) iter.Seq[ride] {
	return func(yield func(ride) bool) {
		at := ridden{}
		for _, rider := range plan {
			r := at.ride(rider)
			if !yield(r) {
				return
			}
			at = r.ridden
		}
	}
}

// difference returns by how much the greatest of some numbers is more than the least one.
func difference(numbers ...int) int { return slices.Max(numbers) - slices.Min(numbers) }

package rest

// way is the riders of some hours, and what it costs that they ride so.
type way struct {
	cost int
	plan []int
}

// after returns the way with a ride before it.
func (w way) after(r ride) way {
	plan := make([]int, len(w.plan)+1)
	plan[0] = r.rider
	copy(plan[1:], w.plan)
	w.plan = plan
	return w
}

// best returns the cheaper one of two ways, the first one if they cost the same.
func (w way) best(other way) way {
	if other.cost < w.cost {
		return other
	}
	return w
}

// fewestChanges asks for the plan with the fewest changes, each of which costs 1.
func fewestChanges() question[way] {
	return question[way]{
		end: func(ridden) way { return way{} },
		ride: func(r ride, behind way) way {
			w := behind.after(r)
			if r.changes() {
				w.cost++
			}
			return w
		},
		join: way.best,
	}
}

// fairest asks for the plan that costs the least if each hour costs 1 by which one rider rides more than the other one.
func fairest() question[way] {
	return question[way]{
		end:  func(d ridden) way { return way{cost: difference(d.totals[:]...)} },
		ride: func(r ride, behind way) way { return behind.after(r) },
		join: way.best,
	}
}

package rest

import "lapworks/api"

// question is what is asked of all right plans, put together from their ends to their beginnings.
type question[T any] struct {
	// end tells of all hours once they are ridden.
	end func(d ridden) T
	// ride tells of a ride and what comes behind it, by what is told of this.
	ride func(r ride, behind T) T
	// join tells of all that can come next, by what is told of it if the rider 0 rides, and if the rider 1 does.
	join func(zero, one T) T
}

// ask returns what is told of all right plans, and whether there is one.
func ask[T any](h hours, q question[T]) (t T, found bool) {
	// What is told is a list, which is empty if no plan is right.
	known := map[ridden][]T{}
	var from func(d ridden) []T
	from = func(d ridden) []T {
		if d.hours() == h.Hours {
			return []T{q.end(d)}
		}
		if all, found := known[d]; found {
			return all
		}
		var steps []T
		for r := range h.rides(d) {
			for _, behind := range from(r.ridden) {
				steps = append(steps, q.ride(r, behind))
			}
		}
		known[d] = joined(q.join, steps)
		return known[d]
	}
	for _, t := range from(ridden{}) {
		return t, true
	}
	return t, false
}

// joined returns what becomes of some things that are joined one after the other; of none nothing does.
func joined[T any](join func(a, b T) T, all []T) []T {
	if len(all) < 2 {
		return all
	}
	first := all[0]
	for _, next := range all[1:] {
		first = join(first, next)
	}
	return []T{first}
}

// number asks how many right plans there are.
func number() question[int] {
	return question[int]{
		end:  func(ridden) int { return 1 },
		ride: func(_ ride, behind int) int { return behind },
		join: func(zero, one int) int { return zero + one },
	}
}

// ridesOf asks how many hours a rider rides.
func ridesOf(rider int) question[api.Span] {
	return question[api.Span]{
		end: func(d ridden) api.Span { return api.Span{Lo: d.totals[rider], Hi: d.totals[rider]} },
		// All hours are in the totals at the end.
		ride: func(_ ride, behind api.Span) api.Span { return behind },
		join: func(zero, one api.Span) api.Span {
			return api.Span{Lo: min(zero.Lo, one.Lo), Hi: max(zero.Hi, one.Hi)}
		},
	}
}

// always asks in which hours each rider rides by all plans.
func always() question[[2]int] {
	return question[[2]int]{
		end: func(ridden) [2]int { return [2]int{} },
		ride: func(r ride, behind [2]int) [2]int {
			behind[r.rider] |= 1 << r.hour()
			return behind
		},
		join: func(zero, one [2]int) [2]int { return [2]int{zero[0] & one[0], zero[1] & one[1]} },
	}
}

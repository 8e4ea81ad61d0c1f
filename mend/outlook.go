package mend

import "iter"

// outlook is how the jobs that are not done yet can be done: in how many right orders; the least cost of one, and the first one that costs so much; and the least minute in which all are done by one.
type outlook struct {
	orders, cost int
	order        []int
	until        int
}

// outlook returns the outlook after some past.
func (s shop) outlook(p past) outlook {
	known := map[work]outlook{}
	var from func(w work) outlook
	from = func(w work) outlook {
		o, found := known[w]
		if !found {
			o = s.goOn(s.after(w), from).behind(w.job, s.fine(w))
			known[w] = o
		}
		return o
	}
	return s.goOn(p, from)
}

// goOn returns the outlook after some past, by that from each job on that can be next.
func (s shop) goOn(p past, from func(w work) outlook) outlook {
	if p.jobs == s.all() {
		return outlook{orders: 1, until: p.free.most()}
	}
	var all []outlook
	for w := range s.next(p) {
		if o := from(w); o.orders > 0 {
			all = append(all, o)
		}
	}
	return joined(all)
}

// next returns an iterator over the jobs that can be next after some past, as they are done then.
func (s shop) next(p past) iter.Seq[work] {
	return func(yield func(w work) bool) {
	next:
		for job := range s.Jobs {
			if p.jobs>>job&1 == 1 {
				continue
			}
			w := s.work(p, job)
			for _, r := range s.rules() {
				if r.brokenBy(w) {
					continue next
				}
			}
			if !yield(w) {
				return
			}
		}
	}
}

// behind returns the outlook if before all others a job is done, for so many coins.
func (o outlook) behind(job, coins int) outlook {
	// Other jobs can come before the same ones, so that each gets an order of its own.
	order := make([]int, 1+len(o.order))
	order[0] = job
	copy(order[1:], o.order)
	o.order, o.cost = order, sum(coins, o.cost)
	return o
}

// joined returns the outlook if there are several, none of which is without an order; where they are alike the first one counts.
func joined(all []outlook) outlook {
	if len(all) == 0 {
		return outlook{}
	}
	cheapest := least(all, scale[outlook]{func(o outlook) int { return o.cost }})
	soonest := least(all, scale[outlook]{func(o outlook) int { return o.until }})
	o := outlook{cost: cheapest.cost, order: cheapest.order, until: soonest.until}
	for _, one := range all {
		o.orders += one.orders
	}
	return o
}

// scale tells how much a thing weighs.
type scale[T any] struct{ weigh func(thing T) int }

// least returns the thing that weighs least, of several the first one. There has to be one.
func least[T any](things []T, by scale[T]) T {
	found := things[0]
	for _, thing := range things[1:] {
		if by.weigh(thing) < by.weigh(found) {
			found = thing
		}
	}
	return found
}

// sum returns how many coins there are together.
func sum(coins ...int) int {
	all := 0
	for _, n := range coins {
		all += n
	}
	return all
}

package prime

import (
	"slices"

	"lapworks/api"
)

// winners is the set of the pairs that a prime can pay, and that of those that it surely pays.
type winners struct{ can, surely int }

// winners returns whom a prime pays.
func (d day) winners(prime int) winners {
	var w winners
	for pair := range d.Sprints.Pairs {
		coins := d.ends(only(prime, payee(pair).due))
		if coins.most > 0 {
			w.can |= 1 << pair
		}
		if coins.least > 0 {
			w.surely |= 1 << pair
		}
	}
	return w
}

// bill is how many coins are due to each pair, and how many go back.
type bill struct {
	due  []int
	back int
}

// bill returns the bill of a day of which all is known.
func (d day) bill() bill {
	b := bill{back: d.ends(d.goesBack()).least}
	for pair := range d.Sprints.Pairs {
		b.due = append(b.due, d.ends(payee(pair).due).least)
	}
	return b
}

// look is a look at the photograph of a sprint, and how many coins at most are not known after it.
type look struct{ sprint, most int }

// look returns the best look for a pair. It gives up if there is no sprint.
func (d day) look(to payee) look {
	require(len(d.ways) > 0, api.ErrNone)
	var all []look
	for sprint, ways := range d.ways {
		l := look{sprint: sprint}
		for _, w := range ways {
			l.most = max(l.most, d.knowing(sprint, w).ends(to.due).wide())
		}
		all = append(all, l)
	}
	return best(all, func(l look) int { return l.most })
}

// knowing returns the day if it is known in which way a sprint decides its primes.
func (d day) knowing(sprint int, w way) day {
	d.ways = slices.Clone(d.ways)
	d.ways[sprint] = []way{w}
	return d
}

// best returns the thing that costs least, of several the first one. There has to be one.
func best[T any](things []T, cost func(thing T) int) T {
	found := things[0]
	for _, thing := range things[1:] {
		if cost(thing) < cost(found) {
			found = thing
		}
	}
	return found
}

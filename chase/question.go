package chase

import "lapworks/api"

// question is what can be asked of an order.
type question interface {
	// holds returns whether it is so, by the place of each pair.
	holds(place func(pair int) int) bool
}

// finalist asks whether a pair comes into the final, as one of so many.
type finalist struct{ pair, final int }

func (f finalist) holds(place func(pair int) int) bool { return place(f.pair) < f.final }

// heat asks whether two pairs meet, of so many pairs.
type heat struct{ pair, other, pairs int }

func (h heat) holds(place func(pair int) int) bool {
	return place(h.pair)+place(h.other) == h.pairs-1
}

// whether returns whether something holds in each order, in none, or in some.
func (f field) whether(q question) int {
	var answers []bool
	for o := range f.orders {
		answers = append(answers, q.holds(o.places().of))
	}
	return verdict(answers...)
}

// verdict returns whether all answers are yes, none is, or some are. There has to be one.
func verdict(answers ...bool) int {
	yes := 0
	for _, a := range answers {
		if a {
			yes++
		}
	}
	switch yes {
	case 0:
		return api.ChaseNever
	case len(answers):
		return api.ChaseAlways
	default:
		return api.ChasePerhaps
	}
}

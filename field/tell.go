package field

import (
	"iter"

	"lapworks/api"
)

// question is what is told of a place, and how what is told of several is joined.
type question[T any] struct {
	of   func(place) T
	join func(all ...T) T
}

// told returns what is told of all places together. There has to be one.
func told[T any](at iter.Seq[place], q question[T]) T {
	var all []T
	for p := range at {
		all = append(all, q.of(p))
	}
	return q.join(all...)
}

// spanOf returns the question from which to which number the numbers of places are.
func spanOf(number func(place) int) question[api.Span] {
	single := func(p place) api.Span {
		n := number(p)
		return api.Span{Lo: n, Hi: n}
	}
	return question[api.Span]{single, hull}
}

// hull returns the span from the least to the greatest number that is in one of some spans. There has to be one.
func hull(spans ...api.Span) api.Span {
	h := spans[0]
	for _, s := range spans {
		h = api.Span{Lo: min(h.Lo, s.Lo), Hi: max(h.Hi, s.Hi)}
	}
	return h
}

// sightings returns the question where the pair of a duel is seen ahead of the other one.
func (c circuit) sightings(d duel) question[int] {
	gap := duel.gap
	single := func(p place) int {
		_, seen := c.split(gap(d, p))
		return 1 << seen
	}
	return question[int]{single, union}
}

// union returns the set of what is in any of some sets.
func union(sets ...int) int {
	all := 0
	for _, set := range sets {
		all |= set
	}
	return all
}

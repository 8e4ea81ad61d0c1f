package field

import (
	"iter"
	"slices"

	"lapworks/api"
)

// distances is how far each pair is ahead of the pair 0. How far they all are from the start changes nothing of what is told, so that places that differ only in this are the same.
type distances [api.FieldPairs]int

// moved returns the distances once one of so many pairs has ridden so far.
func (d distances) moved(pairs, pair, far int) distances {
	if pair > 0 {
		d[pair] += far
		return d
	}
	for other := 1; other < pairs; other++ {
		d[other] -= far
	}
	return d
}

// place is where pairs are at a moment.
type place struct {
	moment int
	ahead  distances
}

// start returns the place where all truths begin.
func start() place { return place{} }

// places is the set of places where pairs can be at some moment.
type places map[distances]bool

// after returns where pairs can be once each of them has ridden so far.
func (at places) after(ride []api.Span) places {
	for pair, far := range ride {
		next := places{}
		for d := range at {
			for n := far.Lo; n <= far.Hi; n++ {
				next[d.moved(len(ride), pair, n)] = true
			}
		}
		at = next
	}
	return at
}

// before returns where pairs can have been before each of them rode so far.
func (at places) before(ride []api.Span) places {
	var reverse []api.Span
	for _, far := range ride {
		reverse = append(reverse, api.Span{Lo: -far.Hi, Hi: -far.Lo})
	}
	return at.after(reverse)
}

// each yields the places as those of a moment.
func (at places) each(moment int) iter.Seq[place] {
	return func(yield func(place) bool) {
		for d := range at {
			if !yield(place{moment, d}) {
				return
			}
		}
	}
}

// duel is two pairs that are held against each other.
type duel struct{ pair, other int }

// isOf returns whether the duel is of two among so many pairs.
func (d duel) isOf(pairs int) bool {
	return isPair(pairs, d.pair) && isPair(pairs, d.other) && d.pair != d.other
}

// gap returns by how much the pair is ahead of the other one.
func (d duel) gap(p place) int {
	return p.ahead[d.pair] - p.ahead[d.other]
}

// circuit is how long the track is, and how many pairs are on it.
type circuit struct{ track, pairs int }

// circuitOf returns the circuit of a field.
func circuitOf(f api.Field) circuit { return circuit{f.Track, f.Pairs} }

// split returns how many whole laps a gap is, rounded down, and what is left, which is all that can be seen of it.
func (c circuit) split(gap int) (laps, seen int) {
	seen = (gap%c.track + c.track) % c.track
	return (gap - seen) / c.track, seen
}

// winner returns what tells how many laps a pair has won at a place: it has to have come up to all others.
func (c circuit) winner(pair int) func(place) int {
	return func(p place) int {
		var each []int
		for other := range c.pairs {
			if other != pair {
				laps, _ := c.split(duel{pair, other}.gap(p))
				each = append(each, laps)
			}
		}
		return slices.Min(each)
	}
}

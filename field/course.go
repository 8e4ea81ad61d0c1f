package field

import (
	"iter"
	"maps"

	"lapworks/api"
)

// course is how far pairs ride from each moment to the next one, and on which conditions.
type course struct {
	rides      [][]api.Span
	conditions []condition
}

// courseOf returns the course of a valid field: its sights are conditions, and so are further ones.
func courseOf(f api.Field, further ...condition) course {
	c := course{rides: f.Rides}
	for _, s := range f.Sights {
		c.conditions = append(c.conditions, sight{s, circuitOf(f)})
	}
	c.conditions = append(c.conditions, further...)
	return c
}

// leaves returns whether all conditions leave a place.
func (c course) leaves(p place) bool {
	for _, k := range c.conditions {
		if !k.leaves(p) {
			return false
		}
	}
	return true
}

// forth yields each moment, the start first, with the places to which pairs can have come by then.
func (c course) forth(yield func(moment int, at places) bool) {
	at := places{start().ahead: true}
	for moment := range len(c.rides) + 1 {
		if moment > 0 {
			at = at.after(c.rides[moment-1])
		}
		maps.DeleteFunc(at, func(d distances, _ bool) bool { return !c.leaves(place{moment, d}) })
		if !yield(moment, at) {
			return
		}
	}
}

// back returns what yields each moment, the last one first, with those of the places of a way forth from which pairs can come to the end.
func (c course) back(forth []places) iter.Seq2[int, places] {
	return func(yield func(moment int, at places) bool) {
		last := len(forth) - 1
		at := forth[last]
		for moment := last; moment >= 0; moment-- {
			if moment < last {
				at = at.before(c.rides[moment])
				maps.DeleteFunc(at, func(d distances, _ bool) bool { return !forth[moment][d] })
			}
			if !yield(moment, at) {
				return
			}
		}
	}
}

// truths is, for each moment, the places where pairs are in some truth. Without a truth there are none.
type truths []places

// truths returns the truths of a course.
func (c course) truths() truths {
	var forth []places
	for _, at := range c.forth {
		forth = append(forth, at)
	}
	t := make(truths, len(forth))
	for moment, at := range c.back(forth) {
		t[moment] = at
	}
	return t
}

// truthsOf returns the truths of a field. It requires that the field is valid, then that what else is asked for is in its range, then that there is a truth.
func truthsOf(f api.Field, inRange bool) truths {
	require(valid(f), api.ErrArg)
	require(inRange, api.ErrRange)
	t := courseOf(f).truths()
	require(t.exist(), api.ErrClash)
	return t
}

// exist returns whether there is a truth: whether pairs can come from the start to the end.
func (t truths) exist() bool {
	for p := range t.at(0) {
		if p == start() {
			return true
		}
	}
	return false
}

// at returns what yields the places of a moment.
func (t truths) at(moment int) iter.Seq[place] {
	return t[moment].each(moment)
}

// first returns the first moment at which something is so in each truth, and whether there is one.
func (t truths) first(is func(place) bool) (moment int, found bool) {
moments:
	for moment := range t {
		for p := range t.at(moment) {
			if !is(p) {
				continue moments
			}
		}
		return moment, true
	}
	return 0, false
}

package count

import (
	"iter"
	"slices"

	"lapworks/api"
)

// truths is the truths of a count, the first one first.
type truths []race

// allTruths returns the truths of a count, if there are any. It requires that the count is valid, and then that what else is asked for is in its range.
func allTruths(c api.Count, inRange bool) truths {
	require(valid(c), api.ErrArg)
	require(inRange, api.ErrRange)
	return find(c)
}

// someTruths returns what allTruths does, and requires that there is a truth.
func someTruths(c api.Count, inRange bool) truths {
	t := allTruths(c, inRange)
	require(len(t) > 0, api.ErrClash)
	return t
}

// find returns the truths of a valid count.
func find(c api.Count) truths {
	if len(c.Sheets) == 1 {
		return truths{c.Sheets[0]}
	}
	s := sheets{c.Pairs, c.Sheets[0], c.Sheets[1]}
	t := truths(s.races())
	for _, sheet := range c.Sheets[2:] {
		t = t.least(sheet)
	}
	return t
}

// least returns those of the truths by which a further sheet has the fewest errors.
func (t truths) least(sheet []int) truths {
	var long []race
	for r := range t.each {
		if len(r) >= len(sheet) {
			long = append(long, r)
		}
	}
	return leastOf(long, measure[race]{func(r race) int { return r.errors(sheet) }})
}

// each yields the truths one after the other.
func (t truths) each(yield func(race) bool) {
	for _, r := range t {
		if !yield(r) {
			return
		}
	}
}

// contain returns whether the race is one of the truths.
func (t truths) contain(asked race) bool {
	for r := range t.each {
		if slices.Equal(r, asked) {
			return true
		}
	}
	return false
}

// span returns the span from the least to the greatest of the numbers that the truths have. There has to be a truth.
func (t truths) span(number func(race) int) api.Span {
	s := api.Span{Lo: number(t[0]), Hi: number(t[0])}
	for r := range t.each {
		n := number(r)
		s = api.Span{Lo: min(s.Lo, n), Hi: max(s.Hi, n)}
	}
	return s
}

// settling returns the first passing that settles a duel, and whether there is one.
func (t truths) settling(d duel) (passing int, found bool) {
	longest := t.span(func(r race) int { return len(r) }).Hi
search:
	for passing := range longest {
		sides := map[int]int{}
		for r := range t.each {
			who := r.at(passing)
			side, known := sides[who]
			if known && side != d.side(r) {
				continue search
			}
			sides[who] = d.side(r)
		}
		return passing, true
	}
	return 0, false
}

// sheets is two sheets of so many pairs.
type sheets struct {
	pairs         int
	first, second []int
}

// left is how many passings are left of both sheets.
type left struct{ first, second int }

// step is a passing of a pair, with how many errors, and what both sheets have left behind it.
type step struct {
	pair, errors int
	left         left
}

// steps yields each passing that can be next, once for each way in which both counters can have come by what they have left.
func (s sheets) steps(l left) iter.Seq[step] {
	first, second := s.first[len(s.first)-l.first:], s.second[len(s.second)-l.second:]
	return func(yield func(step) bool) {
		for pair := range s.pairs {
			for _, h := range happenings() {
				for _, g := range happenings() {
					// A passing that both miss would only add two errors.
					if h.written()+g.written() == 0 || !h.fits(pair, first) || !g.fits(pair, second) {
						continue
					}
					behind := left{l.first - h.written(), l.second - g.written()}
					if !yield(step{pair, h.errors() + g.errors(), behind}) {
						return
					}
				}
			}
		}
	}
}

// best is the races by which two sheets have the fewest errors together, in order, and how many these are.
type best struct {
	errors int
	races  []race
}

// races returns the races by which both sheets have the fewest errors together.
func (s sheets) races() []race {
	// Where nothing is left of either sheet, nothing more has passed.
	known := map[left]best{{}: {0, []race{nil}}}
	var follow func(l left) best
	follow = func(l left) best {
		if b, found := known[l]; found {
			return b
		}
		var all []best
		for next := range s.steps(l) {
			later := follow(next.left)
			all = append(all, best{next.errors + later.errors, after(next.pair, later.races)})
		}
		fewest := join(leastOf(all, measure[best]{func(b best) int { return b.errors }}))
		known[l] = fewest
		return fewest
	}
	return follow(left{len(s.first), len(s.second)}).races
}

// after returns the races with a passing of the pair before each.
func after(pair int, races []race) []race {
	var longer []race
	for _, r := range races {
		longer = append(longer, r.after(pair))
	}
	return longer
}

// join returns all races of several that have as many errors, each once.
func join(all []best) best {
	joined := best{errors: all[0].errors}
	for _, b := range all {
		joined.races = append(joined.races, b.races...)
	}
	slices.SortFunc(joined.races, slices.Compare)
	joined.races = slices.CompactFunc(joined.races, slices.Equal)
	return joined
}

package spill

import (
	"iter"
	"slices"

	"lapworks/api"
)

// journal is reports that stand, by their Ids, the lesser ones first.
type journal []api.SpillReport

// journalOf returns what stands of a journal. It requires that the journal is valid.
func journalOf(l []api.SpillReport) journal {
	require(valid(l), api.ErrArg)
	return standingOf(l).journal()
}

// askedOf returns what journalOf does, and requires then that a pair is one.
func askedOf(l []api.SpillReport, pair int) journal {
	j := journalOf(l)
	require(within(pair, 0, api.SpillPairs-1), api.ErrRange)
	return j
}

// falls returns the reports that are of falls.
func (j journal) falls() []api.SpillReport {
	var all []api.SpillReport
	for _, r := range j {
		if r.Kind == api.SpillFall {
			all = append(all, r)
		}
	}
	return all
}

// scores returns the scores that the others are of.
func (j journal) scores() []score {
	var all []score
	for _, r := range j {
		if s := kindOf(r).score(r); s != nil {
			all = append(all, s)
		}
	}
	return all
}

// exactly yields a report in each way in which its At, and its Laps, can be one number each. Without Laps these are 0, and stay so.
func exactly(r api.SpillReport) iter.Seq[api.SpillReport] {
	return func(yield func(api.SpillReport) bool) {
		known := r
		for lap := r.At.Lo; lap <= r.At.Hi; lap++ {
			for many := r.Laps.Lo; many <= r.Laps.Hi; many++ {
				known.At, known.Laps = api.Span{Lo: lap, Hi: lap}, api.Span{Lo: many, Hi: many}
				if !yield(known) {
					return
				}
			}
		}
	}
}

// voids yields all laps that are void together, for each way in which falls can have been.
func (j journal) voids(yield func(void laps) bool) {
	falls := j.falls()
	var follow func(next int, void laps) bool
	follow = func(next int, void laps) bool {
		if next == len(falls) {
			return yield(void)
		}
		for fall := range exactly(falls[next]) {
			from := fall.At.Lo
			if !follow(next+1, void.or(lapsOf(api.Span{Lo: from, Hi: from + fall.Laps.Lo - 1}))) {
				return false
			}
		}
		return true
	}
	follow(0, 0)
}

// void returns the laps that are void, joined of all ways in which falls can have been.
func (j journal) void(join func(a, b laps) laps) laps {
	return joined(join, slices.Collect(j.voids))
}

// ends returns the ends of what is asked of all ways in which falls can have been.
func (j journal) ends(ask func(void laps) ends) ends {
	var all []ends
	for void := range j.voids {
		all = append(all, ask(void))
	}
	return joined(ends.with, all)
}

// joined returns what becomes of some things that are joined one after the other. There has to be one.
func joined[T any](join func(a, b T) T, all []T) T {
	found := all[0]
	for _, next := range all[1:] {
		found = join(found, next)
	}
	return found
}

// counts returns whether a score counts.
func (j journal) counts(s score) int {
	switch j.ends(s.times) {
	case ends{0, 0}:
		return api.SpillNever
	case ends{1, 1}:
		return api.SpillAlways
	}
	return api.SpillPerhaps
}

// balance returns the ends of the balance of a pair. Each score can have been at any of its laps, whatever the others were, so that their ends go together.
func (j journal) balance(pair int) ends {
	scores := j.scores()
	return j.ends(func(void laps) ends {
		sum := ends{}
		for _, s := range scores {
			if s.of(pair) {
				sum = sum.plus(s.worth(void))
			}
		}
		return sum
	})
}

// settled returns whether the balance of a pair is known exactly.
func (j journal) settled(pair int) bool {
	b := j.balance(pair)
	return b.Lo == b.Hi
}

// settling returns the least Id of a report that settles the balance of a pair, if there is one.
func (j journal) settling(pair int) (id int, found bool) {
reports:
	for i, r := range j {
		for known := range exactly(r) {
			as := journal(changed(j, func(list []api.SpillReport) { list[i] = known }))
			if !as.settled(pair) {
				continue reports
			}
		}
		return r.Id, true
	}
	return 0, false
}

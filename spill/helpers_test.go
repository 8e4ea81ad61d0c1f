package spill_test

import (
	"math/rand"
	"slices"
	"testing"

	"lapworks/api"
	"lapworks/spill"
)

func span(lo, hi int) api.Span { return api.Span{Lo: lo, Hi: hi} }

// list returns what is written as a list.
func list[T any](all ...T) []T { return all }

func fall(id int, at, laps api.Span) api.SpillReport {
	return api.SpillReport{Id: id, Kind: api.SpillFall, At: at, Laps: laps}
}

func gain(id, pair int, at api.Span) api.SpillReport {
	return api.SpillReport{Id: id, Kind: api.SpillGain, At: at, Pair: pair}
}

func loss(id, pair int, at api.Span) api.SpillReport {
	return api.SpillReport{Id: id, Kind: api.SpillLoss, At: at, Pair: pair}
}

// version returns another version of a report.
func version(n int, r api.SpillReport) api.SpillReport {
	r.Version = n
	return r
}

// exampleJ is the journal of the chapter's examples, and exampleK the correction.
func exampleJ() []api.SpillReport {
	return list(fall(1, span(10, 11), span(3, 4)), gain(2, 0, span(12, 13)), gain(3, 0, span(20, 20)), loss(4, 1, span(11, 11)))
}

func exampleK() []api.SpillReport {
	return list(version(1, fall(1, span(10, 10), span(3, 3))))
}

// joined returns the reports of some journals in one.
func joined(journals ...[]api.SpillReport) []api.SpillReport { return slices.Concat(journals...) }

// changed returns a journal with something changed in it.
func changed(l []api.SpillReport, change func(l []api.SpillReport)) []api.SpillReport {
	l = slices.Clone(l)
	change(l)
	return l
}

// replaced returns a journal with another report in the place of one.
func replaced(l []api.SpillReport, i int, r api.SpillReport) []api.SpillReport {
	return changed(l, func(l []api.SpillReport) { l[i] = r })
}

// shuffled returns the reports of a journal in another order.
func shuffled(r *rand.Rand, l []api.SpillReport) []api.SpillReport {
	return changed(l, func(l []api.SpillReport) { r.Shuffle(len(l), func(i, j int) { l[i], l[j] = l[j], l[i] }) })
}

// randomSpan returns a span of at most so many numbers more than one, from one bound to another one.
func randomSpan(r *rand.Rand, least, most, wide int) api.Span {
	lo := least + r.Intn(most-least+1)
	return span(lo, min(most, lo+r.Intn(wide+1)))
}

// randomReport returns a report of some kind, at one of a few laps, so that falls make others void.
func randomReport(r *rand.Rand, id, wide int) api.SpillReport {
	at := randomSpan(r, 0, 8, wide)
	switch r.Intn(5) {
	case 0, 1:
		return fall(id, at, randomSpan(r, 1, 6, wide))
	case 2:
		return loss(id, r.Intn(api.SpillPairs), at)
	}
	return gain(id, r.Intn(api.SpillPairs), at)
}

// falls returns how many reports are of falls.
func falls(l []api.SpillReport) int {
	many := 0
	for _, r := range l {
		if r.Kind == api.SpillFall {
			many++
		}
	}
	return many
}

// randomJournal returns a journal of reports of which each has an Id of its own, with at most so many.
func randomJournal(r *rand.Rand, most, wide int) []api.SpillReport {
	var l []api.SpillReport
	ids := r.Perm(api.SpillIds + 1)
	for len(l) < most {
		one := version(r.Intn(3), randomReport(r, ids[len(l)], wide))
		if one.Kind == api.SpillFall && falls(l) == api.SpillFalls {
			continue
		}
		l = append(l, one)
	}
	return l
}

// muddled returns a valid journal of so many reports, of few Ids and versions, some of them twice.
func muddled(r *rand.Rand, reports, ids int) []api.SpillReport {
	for {
		var l []api.SpillReport
		for range reports {
			if len(l) > 0 && r.Intn(6) == 0 {
				l = append(l, l[r.Intn(len(l))])
				continue
			}
			l = append(l, version(r.Intn(3), randomReport(r, r.Intn(ids), 1)))
		}
		if falls(stand(l)) <= api.SpillFalls {
			return l
		}
	}
}

// must returns what takes a result that has no error.
func must[T any](result T, e api.Errno) func(t *testing.T) T {
	return func(t *testing.T) T {
		t.Helper()
		if e != api.OK {
			t.Fatal(e)
		}
		return result
	}
}

// outcome is a result with its error.
type outcome struct {
	result int
	e      api.Errno
}

// told is all that is told of a journal: which laps are void, which can be, whether what counts by its Id, and the balance of each pair, and what would settle it.
type told struct {
	void, could []api.Span
	counts      [api.SpillIds + 1]outcome
	balances    [api.SpillPairs]api.Span
	asked       [api.SpillPairs]outcome
}

// ask returns all that is told of a valid journal.
func ask(t *testing.T, l []api.SpillReport) told {
	t.Helper()
	a := told{void: must(spill.Void(l))(t), could: must(spill.Could(l))(t)}
	for id := range a.counts {
		n, e := spill.Counts(l, id)
		a.counts[id] = outcome{n, e}
	}
	for pair := range a.balances {
		a.balances[pair] = must(spill.Balance(l, pair))(t)
		id, e := spill.Ask(l, pair)
		a.asked[pair] = outcome{id, e}
	}
	return a
}

// same returns whether the same is told.
func (a told) same(b told) bool {
	return slices.Equal(a.void, b.void) && slices.Equal(a.could, b.could) && a.counts == b.counts && a.balances == b.balances && a.asked == b.asked
}

// has returns whether a lap is in one of some spans.
func has(spans []api.Span, lap int) bool {
	return slices.ContainsFunc(spans, func(s api.Span) bool { return s.Lo <= lap && lap <= s.Hi })
}

// among returns whether each lap of some spans is in some others.
func among(spans, others []api.Span) bool {
	for _, s := range spans {
		for lap := s.Lo; lap <= s.Hi; lap++ {
			if !has(others, lap) {
				return false
			}
		}
	}
	return true
}

// inside returns whether all of one span is in another one.
func inside(s, of api.Span) bool { return s.Lo >= of.Lo && s.Hi <= of.Hi }

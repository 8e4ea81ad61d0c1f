package spill_test

import (
	"math/rand"
	"slices"
	"testing"

	"lapworks/api"
	"lapworks/spill"
)

// What the chapter defines is done here as it stands there: all truths of a journal are written down, and then it is looked what is so in them.

// numbers returns all numbers that a report has, in the order in which they decide which one stands.
func numbers(r api.SpillReport) []int {
	l := list(r.Version, r.Kind, r.At.Lo, r.At.Hi)
	if r.Kind == api.SpillFall {
		return append(l, r.Laps.Lo, r.Laps.Hi)
	}
	return append(l, r.Pair)
}

// bare returns a report with the numbers that it has alone.
func bare(r api.SpillReport) api.SpillReport {
	if r.Kind == api.SpillFall {
		return version(r.Version, fall(r.Id, r.At, r.Laps))
	}
	return api.SpillReport{Id: r.Id, Version: r.Version, Kind: r.Kind, At: r.At, Pair: r.Pair}
}

// stand returns the reports that stand, by their Ids.
func stand(l []api.SpillReport) []api.SpillReport {
	var all []api.SpillReport
	for id := range api.SpillIds + 1 {
		var same []api.SpillReport
		for _, r := range l {
			if r.Id == id {
				same = append(same, bare(r))
			}
		}
		if len(same) > 0 {
			all = append(all, slices.MaxFunc(same, func(a, b api.SpillReport) int { return slices.Compare(numbers(a), numbers(b)) }))
		}
	}
	return all
}

// truth is at which lap each report that stands happened, and for how many laps a fall neutralised the race.
type truth struct{ at, laps []int }

// truths returns all truths of the reports that stand.
func truths(standing []api.SpillReport) []truth {
	all := []truth{{}}
	for _, r := range standing {
		var longer []truth
		for _, t := range all {
			for at := r.At.Lo; at <= r.At.Hi; at++ {
				for laps := r.Laps.Lo; laps <= r.Laps.Hi; laps++ {
					longer = append(longer, truth{append(slices.Clone(t.at), at), append(slices.Clone(t.laps), laps)})
				}
			}
		}
		all = longer
	}
	return all
}

// void returns whether a lap is void in a truth.
func (t truth) void(standing []api.SpillReport, lap int) bool {
	for i, r := range standing {
		if r.Kind == api.SpillFall && lap >= t.at[i] && lap < t.at[i]+t.laps[i] {
			return true
		}
	}
	return false
}

// counts returns whether a gain or a loss counts in a truth.
func (t truth) counts(standing []api.SpillReport, i int) bool {
	return standing[i].Kind != api.SpillFall && !t.void(standing, t.at[i])
}

// balance returns the balance of a pair in a truth.
func (t truth) balance(standing []api.SpillReport, pair int) int {
	sum := 0
	for i, r := range standing {
		if r.Kind == api.SpillFall || r.Pair != pair || !t.counts(standing, i) {
			continue
		}
		if r.Kind == api.SpillGain {
			sum++
		} else {
			sum--
		}
	}
	return sum
}

// spans returns the laps of which something is so, as spans.
func spans(is func(lap int) bool) []api.Span {
	var all []api.Span
	for lap := range 100 {
		if is(lap) && (lap == 0 || !is(lap-1)) {
			end := lap
			for is(end + 1) {
				end++
			}
			all = append(all, span(lap, end))
		}
	}
	return all
}

// certain returns 2 if something is so in all truths, 0 if in none, and 1 otherwise.
func certain(all []truth, is func(t truth) bool) int {
	so := 0
	for _, t := range all {
		if is(t) {
			so++
		}
	}
	switch so {
	case 0:
		return 0
	case len(all):
		return 2
	}
	return 1
}

// ends returns the span of the balance of a pair by some truths.
func ends(standing []api.SpillReport, all []truth, pair int) api.Span {
	first := all[0].balance(standing, pair)
	s := span(first, first)
	for _, t := range all {
		n := t.balance(standing, pair)
		s = span(min(s.Lo, n), max(s.Hi, n))
	}
	return s
}

// settler returns the least Id of a report that settles the balance of a pair: of those truths in which it is the same way, all have the same balance.
func settler(standing []api.SpillReport, all []truth, pair int) outcome {
	if s := ends(standing, all, pair); s.Lo == s.Hi {
		return outcome{0, api.ErrRefuse}
	}
reports:
	for i, r := range standing {
		groups := map[[2]int][]truth{}
		for _, t := range all {
			groups[[2]int{t.at[i], t.laps[i]}] = append(groups[[2]int{t.at[i], t.laps[i]}], t)
		}
		for _, group := range groups {
			if s := ends(standing, group, pair); s.Lo != s.Hi {
				continue reports
			}
		}
		return outcome{r.Id, api.OK}
	}
	return outcome{0, api.ErrNone}
}

// expected returns all that has to be told of a journal.
func expected(l []api.SpillReport) told {
	standing := stand(l)
	all := truths(standing)
	sure := func(lap int) int {
		return certain(all, func(t truth) bool { return t.void(standing, lap) })
	}
	a := told{void: spans(func(lap int) bool { return sure(lap) == 2 }), could: spans(func(lap int) bool { return sure(lap) > 0 })}
	for id := range a.counts {
		a.counts[id] = outcome{0, api.ErrNone}
	}
	for i, r := range standing {
		if r.Kind != api.SpillFall {
			a.counts[r.Id] = outcome{certain(all, func(t truth) bool { return t.counts(standing, i) }), api.OK}
		}
	}
	for pair := range a.balances {
		a.balances[pair] = ends(standing, all, pair)
		a.asked[pair] = settler(standing, all, pair)
	}
	return a
}

// checked tests all that is told of a journal against its truths, and returns what would settle the balances of pairs.
func checked(t *testing.T, l []api.SpillReport) [api.SpillPairs]outcome {
	t.Helper()
	a, want := ask(t, l), expected(l)
	if !a.same(want) {
		t.Error(l, a, want)
	}
	return a.asked
}

// P5.3 to P5.6, P5.8 (both ends of a balance are those of a truth), P2 of the document: journals of a few reports, wide ones, and others of many.
func TestAgainstTruths(t *testing.T) {
	r := rand.New(rand.NewSource(81))
	found := map[api.Errno]int{}
	for i := range 1500 {
		l := randomJournal(r, 1+i%4, 2)
		if i%3 == 0 {
			l = randomJournal(r, i%9, 1)
		}
		for _, asked := range checked(t, l) {
			found[asked.e]++
		}
	}
	if found[api.OK] < 60 || found[api.ErrNone] < 60 || found[api.ErrRefuse] < 400 {
		t.Error("too few of a kind for a test", found)
	}
}

// P5.3 to P5.6: the widest falls there can be, and reports that do not stand.
func TestWideFalls(t *testing.T) {
	r := rand.New(rand.NewSource(82))
	for range 60 {
		at := func() api.Span {
			lo := r.Intn(api.SpillLap + 1 - api.SpillWide)
			return span(lo, lo+api.SpillWide)
		}
		lo := 1 + r.Intn(api.SpillLaps-api.SpillWide)
		f := fall(r.Intn(10), at(), span(lo, lo+api.SpillWide))
		near := span(f.At.Lo+r.Intn(4), f.At.Lo+r.Intn(4)+3)
		near = span(min(near.Lo, api.SpillLap), min(max(near.Lo, near.Hi), near.Lo+3, api.SpillLap))
		checked(t, list(f, gain(10, 0, near), loss(11, r.Intn(2), near), gain(12, 1, at())))
	}
	for range 100 {
		checked(t, muddled(r, 9, 5))
	}
}

// P5.1, P5.2: which reports stand of journals in which the same Ids come again and again.
func TestAgainstStanding(t *testing.T) {
	r := rand.New(rand.NewSource(83))
	full, sent := 0, 0
	for i := range 800 {
		ids := 1 + i%20
		a, b := muddled(r, r.Intn(13), ids), muddled(r, r.Intn(13), ids)
		both := stand(joined(a, b))
		want, wantError := both, api.OK
		if len(both) > api.SpillReports || falls(both) > api.SpillFalls {
			want, wantError = nil, api.ErrFull
			full++
		}
		if l, e := spill.Merge(a, b); !slices.Equal(l, want) || e != wantError {
			t.Error("Merge", a, b, l, e, want, wantError)
		}
		there := stand(b)
		missing := slices.DeleteFunc(both, func(r api.SpillReport) bool { return slices.Contains(there, r) })
		if l, e := spill.Send(a, b); !slices.Equal(l, missing) || e != api.OK {
			t.Error("Send", a, b, l, e, missing)
		}
		if len(missing) > 0 && len(missing) < len(stand(a)) {
			sent++
		}
	}
	if full < 60 || sent < 200 {
		t.Error("too few of a kind for a test", full, sent)
	}
}

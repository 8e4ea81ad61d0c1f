package spill_test

import (
	"math/rand"
	"slices"
	"testing"

	"lapworks/api"
	"lapworks/spill"
)

// merged returns two journals merged, of which the test knows that there is room for both.
func merged(t *testing.T, a, b []api.SpillReport) []api.SpillReport {
	t.Helper()
	l, e := spill.Merge(a, b)
	if e != api.OK {
		t.Fatal("Merge", a, b, e)
	}
	return l
}

// fits returns whether there is room for all that stands of some reports.
func fits(l []api.SpillReport) bool {
	standing := stand(l)
	return len(standing) <= api.SpillReports && falls(standing) <= api.SpillFalls
}

// three returns three journals, any of which there is room for together.
func three(r *rand.Rand) (a, b, c []api.SpillReport) {
	for {
		a, b, c = muddled(r, r.Intn(8), 6), muddled(r, r.Intn(8), 6), muddled(r, r.Intn(8), 6)
		if fits(joined(a, b)) && fits(joined(b, c)) && fits(joined(a, c)) && fits(joined(a, b, c)) {
			return a, b, c
		}
	}
}

// P5.7, P6 and P11 of the document: merging is the same in whatever order, however grouped, and however often.
func TestOrderOfMerging(t *testing.T) {
	r := rand.New(rand.NewSource(91))
	for range 400 {
		a, b, c := three(r)
		ab := merged(t, a, b)
		all := merged(t, ab, c)
		some := a[:r.Intn(len(a)+1)]
		if fits(some) {
			if l := merged(t, ab, some); !slices.Equal(l, ab) {
				t.Error("with a part of it", a, b, some, l, ab)
			}
		}
		for i, l := range [][]api.SpillReport{
			merged(t, b, a), merged(t, ab, a), merged(t, b, ab), merged(t, ab, ab), merged(t, ab, nil), merged(t, shuffled(r, a), shuffled(r, b)), merged(t, merged(t, a, a), b),
		} {
			if !slices.Equal(l, ab) {
				t.Error(i, a, b, l, ab)
			}
		}
		for i, l := range [][]api.SpillReport{
			merged(t, a, merged(t, b, c)), merged(t, merged(t, a, c), b), merged(t, c, merged(t, b, a)), merged(t, all, merged(t, c, a)),
		} {
			if !slices.Equal(l, all) {
				t.Error(i, a, b, c, l, all)
			}
		}
	}
}

// P5.7: whoever merges what is sent has what the merge of both is, and nobody has to send anything more; nothing less would do.
func TestSentAndMerged(t *testing.T) {
	r := rand.New(rand.NewSource(92))
	for range 400 {
		a, b := muddled(r, r.Intn(10), 7), muddled(r, r.Intn(10), 7)
		sent := must(spill.Send(a, b))(t)
		all, e := spill.Merge(b, a)
		if l, d := spill.Merge(b, sent); !slices.Equal(l, all) || d != e {
			t.Error(a, b, sent, l, d, all, e)
		}
		if e != api.OK {
			continue
		}
		if l := must(spill.Send(sent, all))(t); len(l) > 0 {
			t.Error("sent again", a, b, l)
		}
		for i := range sent {
			less := slices.Delete(slices.Clone(sent), i, i+1)
			if l, e := spill.Merge(b, less); slices.Equal(l, all) && e == api.OK {
				t.Error("sent for nothing", a, b, sent[i])
			}
		}
	}
}

// P5.7, P11 of the document: reports in another order, some of them twice, and without those that do not stand, are told the same.
func TestOrderOfReports(t *testing.T) {
	r := rand.New(rand.NewSource(93))
	fewer := 0
	for range 300 {
		l := muddled(r, 10, 6)
		a := ask(t, l)
		standing := stand(l)
		for _, other := range [][]api.SpillReport{
			shuffled(r, l), append(slices.Clone(l), l[r.Intn(len(l))], l[r.Intn(len(l))]), standing, shuffled(r, standing), merged(t, l, nil),
		} {
			if b := ask(t, other); !a.same(b) {
				t.Error(l, other, a, b)
			}
		}
		fewer += len(l) - len(standing)
	}
	if fewer < 600 {
		t.Error("too few reports do not stand for a test", fewer)
	}
}

// way is at which laps reports that stand happened, and which laps were void.
type way struct {
	at   []int
	void [100]bool
}

// randomWay returns one way in which all reports that stand can have happened.
func randomWay(r *rand.Rand, standing []api.SpillReport) way {
	var w way
	for _, one := range standing {
		at := one.At.Lo + r.Intn(one.At.Hi-one.At.Lo+1)
		w.at = append(w.at, at)
		if one.Kind != api.SpillFall {
			continue
		}
		for i := range one.Laps.Lo + r.Intn(one.Laps.Hi-one.Laps.Lo+1) {
			w.void[at+i] = true
		}
	}
	return w
}

// so tests what is told of a journal against one way in which all can have happened.
func (w way) so(t *testing.T, standing []api.SpillReport, a told) {
	t.Helper()
	for lap, void := range w.void {
		if has(a.void, lap) && !void || void && !has(a.could, lap) {
			t.Error("void", standing, w.at, lap)
		}
	}
	var sum [api.SpillPairs]int
	for i, r := range standing {
		if r.Kind == api.SpillFall {
			continue
		}
		counts := !w.void[w.at[i]]
		if n := a.counts[r.Id]; n.e != api.OK || n.result == api.SpillAlways && !counts || n.result == api.SpillNever && counts {
			t.Error("Counts", standing, w.at, r.Id, n)
		}
		if counts && r.Kind == api.SpillGain {
			sum[r.Pair]++
		}
		if counts && r.Kind == api.SpillLoss {
			sum[r.Pair]--
		}
	}
	for pair, n := range sum {
		if !inside(span(n, n), a.balances[pair]) {
			t.Error("Balance", standing, w.at, pair, n)
		}
	}
}

// P5.8, P2 of the document: whatever is true is within what is told, of journals with as much as there can be.
func TestWhatIsTrue(t *testing.T) {
	r := rand.New(rand.NewSource(94))
	for range 40 {
		l := randomJournal(r, api.SpillReports, api.SpillWide)
		a := ask(t, l)
		standing := stand(l)
		for range 100 {
			randomWay(r, standing).so(t, standing, a)
		}
	}
}

// narrower returns a span within another one, that differs from it if it can.
func narrower(r *rand.Rand, s api.Span) api.Span {
	if s.Lo == s.Hi {
		return s
	}
	if r.Intn(2) == 0 {
		return span(s.Lo+1, s.Hi)
	}
	return span(s.Lo, s.Hi-1)
}

// exact tests that of a journal nothing is told less exactly than before, and returns whether something is told more exactly.
func exact(t *testing.T, before, after told) bool {
	t.Helper()
	if !among(before.void, after.void) || !among(after.could, before.could) {
		t.Error("void", before, after)
	}
	for id, n := range before.counts {
		if m := after.counts[id]; m != n && (n.result != api.SpillPerhaps || m.e != api.OK) {
			t.Error("Counts", id, n, m)
		}
	}
	for pair, s := range before.balances {
		if !inside(after.balances[pair], s) {
			t.Error("Balance", pair, s, after.balances[pair])
		}
		// What settles it settles it still, unless it is settled.
		if n, m := before.asked[pair], after.asked[pair]; n.e != api.ErrNone && m.e != api.ErrRefuse && m != n {
			t.Error("Ask", pair, n, m)
		}
	}
	return !before.same(after)
}

// P5.8: with a span that is narrower nothing is told less exactly.
func TestNarrower(t *testing.T) {
	r := rand.New(rand.NewSource(95))
	sharper := 0
	for range 400 {
		l := stand(randomJournal(r, 6, api.SpillWide))
		i := r.Intn(len(l))
		known := l[i]
		if known.Kind == api.SpillFall && r.Intn(2) == 0 {
			known.Laps = narrower(r, known.Laps)
		} else {
			known.At = narrower(r, known.At)
		}
		if exact(t, ask(t, l), ask(t, replaced(l, i, known))) {
			sharper++
		}
	}
	if sharper < 60 {
		t.Error("too few are told more exactly for a test", sharper)
	}
}

// P5.8: a fall more makes no lap less void, and no gain or loss count that did not.
func TestOneFallMore(t *testing.T) {
	r := rand.New(rand.NewSource(96))
	fewer := 0
	for range 300 {
		var l []api.SpillReport
		for _, one := range stand(randomJournal(r, 8, 2)) {
			if one.Kind != api.SpillFall || falls(l) < api.SpillFalls-1 {
				l = append(l, one)
			}
		}
		free := 0
		for slices.ContainsFunc(l, func(r api.SpillReport) bool { return r.Id == free }) {
			free++
		}
		a, b := ask(t, l), ask(t, append(slices.Clone(l), fall(free, randomSpan(r, 0, 8, 2), randomSpan(r, 1, 6, 2))))
		if !among(a.void, b.void) || !among(a.could, b.could) {
			t.Error("void", l, free, a, b)
		}
		for id, n := range a.counts {
			if m := b.counts[id]; m.e != n.e || m.result > n.result {
				t.Error("Counts", l, id, n, m)
			} else if m.result < n.result {
				fewer++
			}
		}
	}
	if fewer < 200 {
		t.Error("too few falls make a difference for a test", fewer)
	}
}

// P5.8: the balance of a pair whose gains and losses are exchanged is the same with the other sign, and nothing else changes.
func TestExchanged(t *testing.T) {
	r := rand.New(rand.NewSource(97))
	for range 200 {
		l := stand(randomJournal(r, 8, 2))
		pair := r.Intn(api.SpillPairs)
		other := changed(l, func(l []api.SpillReport) {
			for i, one := range l {
				if one.Kind != api.SpillFall && one.Pair == pair {
					l[i].Kind = api.SpillGain + api.SpillLoss - one.Kind
				}
			}
		})
		a := ask(t, l)
		a.balances[pair] = span(-a.balances[pair].Hi, -a.balances[pair].Lo)
		if b := ask(t, other); !a.same(b) {
			t.Error(l, other, pair, a, b)
		}
	}
}

// P5.6: if a report settles it, then by whatever numbers it is known exactly the balance is, too; and no other report does.
func TestSettles(t *testing.T) {
	r := rand.New(rand.NewSource(98))
	found := 0
	for range 400 {
		l := stand(randomJournal(r, 5, 2))
		for pair := range api.SpillPairs {
			id, e := spill.Ask(l, pair)
			if e == api.ErrRefuse {
				continue
			}
			for i, one := range l {
				if settles(t, l, i, pair) != (e == api.OK && one.Id == id) {
					t.Error(l, pair, id, e, one)
				}
			}
			if e == api.OK {
				found++
			}
		}
	}
	if found < 40 {
		t.Error("too few are settled for a test", found)
	}
}

// settles returns whether the balance of a pair is known by each numbers that a report of a journal can have.
func settles(t *testing.T, l []api.SpillReport, i, pair int) bool {
	t.Helper()
	for at := l[i].At.Lo; at <= l[i].At.Hi; at++ {
		for laps := l[i].Laps.Lo; laps <= l[i].Laps.Hi; laps++ {
			one := l[i]
			one.At, one.Laps = span(at, at), span(laps, laps)
			if s := must(spill.Balance(replaced(l, i, one), pair))(t); s.Lo < s.Hi {
				return false
			}
		}
	}
	return true
}

// P11 of the document: the same journal is told the same, however often it is asked.
func TestAskedAgain(t *testing.T) {
	r := rand.New(rand.NewSource(99))
	for range 50 {
		l, other := muddled(r, 10, 12), muddled(r, 6, 12)
		a := ask(t, l)
		m, e := spill.Merge(l, other)
		sent := must(spill.Send(l, other))(t)
		for range 5 {
			if b := ask(t, l); !a.same(b) {
				t.Error(l, a, b)
			}
			if n, d := spill.Merge(l, other); !slices.Equal(m, n) || d != e {
				t.Error("Merge", l, other, m, e, n, d)
			}
			if again := must(spill.Send(l, other))(t); !slices.Equal(sent, again) {
				t.Error("Send", l, other, sent, again)
			}
		}
	}
}

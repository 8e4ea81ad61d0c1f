package spill_test

import (
	"math"
	"slices"
	"testing"

	"lapworks/api"
	"lapworks/spill"
)

// odd returns numbers, many of which are out of every range.
func odd() []int {
	return list(math.MinInt, math.MinInt+1, -1, 0, 1, 2, 3, 4, 9, 10, 31, 32, 50, 51, math.MaxInt-1, math.MaxInt)
}

// refusedTwo tests that two journals are refused with an error, whichever way round, and nothing else is returned.
func refusedTwo(t *testing.T, a, b []api.SpillReport, want api.Errno) {
	t.Helper()
	for range 2 {
		if l, e := spill.Merge(a, b); len(l) != 0 || e != want {
			t.Error("Merge", a, b, l, e)
		}
		if l, e := spill.Send(a, b); len(l) != 0 || e != want {
			t.Error("Send", a, b, l, e)
		}
		a, b = b, a
	}
}

// refusedLaps tests that nothing is told of laps, nor of what counts.
func refusedLaps(t *testing.T, l []api.SpillReport, id int, want api.Errno) {
	t.Helper()
	if s, e := spill.Void(l); len(s) != 0 || e != want {
		t.Error("Void", l, s, e)
	}
	if s, e := spill.Could(l); len(s) != 0 || e != want {
		t.Error("Could", l, s, e)
	}
	if n, e := spill.Counts(l, id); n != 0 || e != want {
		t.Error("Counts", l, id, n, e)
	}
}

// refusedPair tests that nothing is told of a pair.
func refusedPair(t *testing.T, l []api.SpillReport, pair int, want api.Errno) {
	t.Helper()
	if s, e := spill.Balance(l, pair); s != (api.Span{}) || e != want {
		t.Error("Balance", l, pair, s, e)
	}
	if id, e := spill.Ask(l, pair); id != 0 || e != want {
		t.Error("Ask", l, pair, id, e)
	}
}

// badSpans returns spans of which none is valid within some bounds.
func badSpans(least, most int) []api.Span {
	return list(
		span(least-1, least), span(least-1, least-1), span(most, most+1), span(most+1, most+1), span(least+1, least), span(most, least), span(least, least+api.SpillWide+1), span(most-api.SpillWide-1, most),
		span(least, math.MaxInt), span(math.MinInt, most), span(math.MinInt, math.MaxInt), span(math.MaxInt, math.MinInt), span(math.MaxInt, math.MaxInt), span(math.MinInt, math.MinInt), span(least, math.MinInt), span(math.MaxInt, most),
	)
}

// badReports returns reports of which none is valid.
func badReports() []api.SpillReport {
	var all []api.SpillReport
	for _, r := range list(fall(1, span(2, 3), span(4, 5)), gain(1, 2, span(3, 4)), loss(1, 2, span(3, 4))) {
		bad := func(change func(r *api.SpillReport)) {
			wrong := r
			change(&wrong)
			all = append(all, wrong)
		}
		for _, n := range []int{-1, math.MinInt, math.MaxInt} {
			bad(func(r *api.SpillReport) { r.Id = n })
			bad(func(r *api.SpillReport) { r.Version = n })
			bad(func(r *api.SpillReport) { r.Kind = n })
		}
		bad(func(r *api.SpillReport) { r.Id = api.SpillIds + 1 })
		bad(func(r *api.SpillReport) { r.Version = api.SpillVersions + 1 })
		bad(func(r *api.SpillReport) { r.Kind = api.SpillLoss + 1 })
		for _, s := range badSpans(0, api.SpillLap) {
			bad(func(r *api.SpillReport) { r.At = s })
		}
	}
	for _, s := range append(badSpans(1, api.SpillLaps), span(0, 0)) {
		all = append(all, fall(1, span(2, 3), s))
	}
	for _, pair := range []int{-1, api.SpillPairs, math.MinInt, math.MaxInt} {
		all = append(all, gain(1, pair, span(2, 3)), loss(1, pair, span(2, 3)))
	}
	return all
}

// notValid returns journals that are not valid, also by a report that does not stand.
func notValid() [][]api.SpillReport {
	four := func(version4 int) []api.SpillReport {
		var l []api.SpillReport
		for id := range api.SpillFalls + 1 {
			l = append(l, fall(id, span(id, id), span(1, 1)))
		}
		l[3].Version = version4
		return l
	}
	all := [][]api.SpillReport{
		many(0, 13), slices.Repeat(list(gain(0, 0, span(1, 1))), 13), make([]api.SpillReport, 1<<16), four(0), four(9),
		append(four(1), gain(3, 0, span(0, 0))), append(many(10, 8), four(0)...),
	}
	for _, r := range badReports() {
		all = append(all, list(r), append(exampleJ(), r), append(list(r), many(1, 11)...), list(r, version(9, gain(1, 0, span(0, 0)))))
	}
	return all
}

// P5.1 to P5.6, R1, R2: whatever else is asked for, journals that are not valid come first.
func TestNotValid(t *testing.T) {
	for _, l := range notValid() {
		for _, other := range [][]api.SpillReport{nil, exampleJ(), many(20, 12), l} {
			refusedTwo(t, l, other, api.ErrArg)
		}
		for _, n := range []int{0, 1, 2, -1, 4, 40, math.MaxInt, math.MinInt} {
			refusedLaps(t, l, n, api.ErrArg)
			refusedPair(t, l, n, api.ErrArg)
		}
	}
}

// P5.5, P5.6, R1: a pair that is none comes before what is not to be asked for.
func TestOutOfRange(t *testing.T) {
	for _, l := range [][]api.SpillReport{nil, exampleJ(), joined(exampleJ(), exampleK()), many(0, 12)} {
		for _, pair := range []int{-1, api.SpillPairs, math.MinInt, math.MaxInt} {
			refusedPair(t, l, pair, api.ErrRange)
		}
		for pair := range api.SpillPairs {
			if _, e := spill.Balance(l, pair); e != api.OK {
				t.Error("Balance", l, pair, e)
			}
		}
	}
}

// R7: the limits themselves are valid, and a journal can have more falls than stand.
func TestLimits(t *testing.T) {
	wide := span(47, 50)
	l := list(
		version(9, fall(31, wide, span(7, 10))), version(9, gain(30, 3, wide)), version(9, loss(29, 3, wide)),
		fall(0, span(0, 0), span(1, 1)), fall(1, span(0, 3), span(1, 4)), gain(2, 0, span(0, 3)), loss(3, 3, span(0, 3)), gain(4, 3, span(50, 50)),
		fall(30, wide, span(7, 10)), fall(29, wide, span(7, 10)), version(8, fall(31, span(0, 0), span(1, 1))), version(8, loss(31, 3, wide)),
	)
	if len(l) != api.SpillReports {
		t.Fatal(len(l))
	}
	checked(t, l)
	if m, e := spill.Merge(l, l); len(m) != 8 || e != api.OK {
		t.Error("Merge", m, e)
	}
	// Three falls as wide as can be, and as many gains and losses as there is room for besides.
	l = list(fall(0, span(10, 13), span(1, 4)), fall(1, span(12, 15), span(2, 5)), fall(2, span(9, 12), span(3, 6)))
	for id := 3; id < api.SpillReports; id++ {
		l = append(l, api.SpillReport{Id: id, Kind: 1 + id%2, At: span(id+5, id+8)})
	}
	if s, e := spill.Balance(l, 0); !inside(span(0, 0), s) || s.Lo < -5 || s.Hi > 4 || e != api.OK {
		t.Error("Balance", s, e)
	}
	if id, e := spill.Ask(l, 0); id != 0 || e != api.ErrNone {
		t.Error("Ask", id, e)
	}
}

// R8: what a report has not is not looked at, neither if it is valid, nor if it is the same, nor if it stands, and is 0 in what is returned.
func TestNotLookedAt(t *testing.T) {
	for _, n := range odd() {
		for _, m := range odd() {
			l := exampleJ()
			for i := range l {
				if l[i].Kind == api.SpillFall {
					l[i].Pair = n
				} else {
					l[i].Laps = span(n, m)
				}
			}
			if a, b := ask(t, l), ask(t, exampleJ()); !a.same(b) {
				t.Error(l, a, b)
			}
			for _, two := range [][2][]api.SpillReport{{l, nil}, {nil, l}, {l, exampleJ()}, {exampleJ(), l}, {l, l}} {
				if m, e := spill.Merge(two[0], two[1]); !slices.Equal(m, exampleJ()) || e != api.OK {
					t.Error("Merge", two, m, e)
				}
			}
			if s, e := spill.Send(l, exampleJ()); len(s) != 0 || e != api.OK {
				t.Error("Send", l, s, e)
			}
			if s, e := spill.Send(exampleJ(), l); len(s) != 0 || e != api.OK {
				t.Error("Send", l, s, e)
			}
			if s, e := spill.Send(l, nil); !slices.Equal(s, exampleJ()) || e != api.OK {
				t.Error("Send", l, s, e)
			}
		}
	}
	// They do not decide which one stands, either.
	l := list(gain(1, 2, span(3, 4)), gain(1, 1, span(3, 4)))
	l[1].Laps = span(9, 9)
	if m, e := spill.Merge(l, nil); !slices.Equal(m, l[:1]) || e != api.OK {
		t.Error("Merge", m, e)
	}
}

// P1 of the document: no argument leads to a panic.
func TestAnyArguments(t *testing.T) {
	for _, a := range odd() {
		for _, b := range odd() {
			for kind := range 4 {
				l := list(
					api.SpillReport{Id: a, Version: b, Kind: kind, At: span(b, a), Laps: span(a, b), Pair: b},
					api.SpillReport{Id: 1, Kind: b, At: span(a, b), Laps: span(1, 1), Pair: a},
				)
				for len(l) > 0 {
					askAll(l, a)
					spill.Merge(l, exampleJ())
					spill.Send(exampleJ(), l)
					l = l[1:]
				}
			}
		}
	}
	askAll(nil, -1)
}

// askAll calls all functions, and looks at no result.
func askAll(l []api.SpillReport, number int) {
	spill.Merge(l, l)
	spill.Send(l, l)
	spill.Void(l)
	spill.Could(l)
	spill.Counts(l, number)
	spill.Balance(l, number)
	spill.Ask(l, number)
}

// R3: an empty journal is the same as none.
func TestNilAndEmpty(t *testing.T) {
	none := []api.SpillReport{}
	if a, b := ask(t, nil), ask(t, none); !a.same(b) {
		t.Error(a, b)
	}
	for _, two := range [][2][]api.SpillReport{{nil, none}, {none, nil}, {none, none}, {nil, nil}} {
		if l, e := spill.Merge(two[0], two[1]); len(l) != 0 || e != api.OK {
			t.Error("Merge", l, e)
		}
		if l, e := spill.Send(two[0], two[1]); len(l) != 0 || e != api.OK {
			t.Error("Send", l, e)
		}
	}
	if l, e := spill.Merge(none, exampleJ()); !slices.Equal(l, exampleJ()) || e != api.OK {
		t.Error("Merge", l, e)
	}
}

// R4: arguments are as they were, also what is behind them in the same memory, and a result is the caller's own.
func TestMemory(t *testing.T) {
	behind := gain(9, 3, span(9, 9))
	own := func(l []api.SpillReport) []api.SpillReport {
		l = slices.Clone(l)
		slices.Reverse(l)
		for i := range l {
			if l[i].Kind == api.SpillFall {
				l[i].Pair = 7
			}
		}
		return append(l, behind)[:len(l)]
	}
	a, b := own(joined(exampleJ(), exampleK())), own(many(3, 8))
	wasA, wasB := slices.Clone(a), slices.Clone(b)
	for pair := range api.SpillPairs {
		askAll(a, pair)
		askAll(b, pair)
	}
	m, sent := merged(t, a, b), must(spill.Send(a, b))(t)
	was, wasSent := slices.Clone(m), slices.Clone(sent)
	void := must(spill.Void(a))(t)
	for _, l := range [][]api.SpillReport{merged(t, a, b), merged(t, a, nil), merged(t, nil, b), must(spill.Send(a, nil))(t)} {
		for i := range l {
			l[i] = behind
		}
	}
	must(spill.Void(a))(t)[0] = span(40, 41)
	if !slices.Equal(a, wasA) || !slices.Equal(b, wasB) || a[:len(a)+1][len(a)] != behind || b[:len(b)+1][len(b)] != behind {
		t.Error("an argument is changed", a, b)
	}
	if !slices.Equal(m, was) || !slices.Equal(sent, wasSent) || !slices.Equal(merged(t, a, b), was) || !slices.Equal(void, list(span(10, 12))) || !slices.Equal(must(spill.Void(a))(t), void) {
		t.Error("a result is changed", m, sent, void)
	}
}

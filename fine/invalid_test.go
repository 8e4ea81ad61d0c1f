package fine_test

import (
	"math"
	"slices"
	"testing"

	"lapworks/api"
	"lapworks/fine"
)

// odd returns numbers, many of which are out of every range.
func odd() []int {
	return list(math.MinInt, math.MinInt+1, -64, -1, 0, 1, 2, 3, 4, 5, 6, 63, 64, 144, 145, 1000, 1001, math.MaxInt)
}

// refused tests that nothing is told of fines but an error, whatever else is asked for.
func refused(t *testing.T, f api.Fines, want api.Errno) {
	t.Helper()
	if s, e := fine.Total(f); s != span(0, 0) || e != want {
		t.Errorf("Total %+v: %v %v", f, s, e)
	}
	for _, n := range odd() {
		refusedNumber(t, f, n, want)
		refusedWithdraw(t, f, n, 0, want)
		refusedWithdraw(t, f, 0, n, want)
	}
	for _, l := range list(nil, list(0), list(0, 0, 0, 0), list(-1), make([]int, 1<<10), make([]int, len(f.List))) {
		refusedExact(t, f, l, l, want)
		refusedExact(t, f, l, nil, want)
	}
}

// refusedNumber tests that nothing is told of an offence, or a rider, but an error.
func refusedNumber(t *testing.T, f api.Fines, number int, want api.Errno) {
	t.Helper()
	refusedOffence(t, f, number, want)
	refusedRider(t, f, number, want)
}

func refusedOffence(t *testing.T, f api.Fines, offence int, want api.Errno) {
	t.Helper()
	if s, e := fine.Cost(f, offence); s != span(0, 0) || e != want {
		t.Errorf("Cost %+v %v: %v %v", f, offence, s, e)
	}
}

func refusedRider(t *testing.T, f api.Fines, rider int, want api.Errno) {
	t.Helper()
	if s, e := fine.Fine(f, rider); s != span(0, 0) || e != want {
		t.Errorf("Fine %+v %v: %v %v", f, rider, s, e)
	}
	if s, e := fine.Pays(f, rider); s != span(0, 0) || e != want {
		t.Errorf("Pays %+v %v: %v %v", f, rider, s, e)
	}
}

func refusedWithdraw(t *testing.T, f api.Fines, rider, most int, want api.Errno) {
	t.Helper()
	if n, e := fine.Withdraw(f, rider, most); n != 0 || e != want {
		t.Errorf("Withdraw %+v %v %v: %v %v", f, rider, most, n, e)
	}
}

func refusedExact(t *testing.T, f api.Fines, riders, hours []int, want api.Errno) {
	t.Helper()
	if l, e := fine.Exact(f, riders, hours); len(l) != 0 || e != want {
		t.Errorf("Exact %+v %v %v: %v %v", f, riders, hours, l, e)
	}
}

// full returns fines with as much of all as there can be.
func full() api.Fines {
	f := of(slices.Repeat(list(rule(api.FineCoins, api.FineCoins, api.FineCoins, api.FineHour)), api.FineRules), api.FineRiders)
	for i := range api.FineList {
		f.List = append(f.List, done(i%api.FineRules, api.FineHour-api.FineWide, api.FineHour, 0, 1, 2, 3, 4, 5))
	}
	return f
}

// bases returns valid fines of at least one rule and offence.
func bases() []api.Fines {
	return list(exampleF(), full(), of(list(rule(0, 0, 0, 0)), 2, done(0, 0, 0, 1)), of(list(rule(1, 2, 3, 4), dear()), 4, done(1, 7, 9, 3)))
}

// badOffences returns fines of which one offence alone is not valid.
func badOffences(f api.Fines) []api.Fines {
	var all []api.Fines
	for i := range f.List {
		bad := func(change func(o *api.Offence)) {
			all = append(all, changed(f, func(f *api.Fines) { change(&f.List[i]) }))
		}
		for _, n := range list(-1, len(f.Rules), 64, math.MinInt, math.MaxInt) {
			bad(func(o *api.Offence) { o.Kind = n })
		}
		// No set of riders, an empty one, and one with a rider who is none.
		for _, n := range list(0, -1, 1<<f.Riders, 1<<f.Riders|1, 1<<62, math.MinInt, math.MaxInt) {
			bad(func(o *api.Offence) { o.Riders = n })
		}
		for _, hours := range list(span(-1, 0), span(-1, -1), span(1, 0), span(144, 145), span(145, 145), span(0, 3), span(10, 13), span(141, 144), span(5, -5), span(143, 142), span(math.MinInt, math.MaxInt), span(math.MaxInt, math.MinInt), span(math.MinInt, 0), span(0, math.MaxInt), span(math.MaxInt, math.MaxInt), span(math.MinInt, math.MinInt)) {
			bad(func(o *api.Offence) { o.Hours = hours })
		}
	}
	return all
}

// badRules returns fines of which one rule alone is not valid.
func badRules(f api.Fines) []api.Fines {
	var all []api.Fines
	for i := range f.Rules {
		bad := func(change func(r *api.FineRule)) {
			all = append(all, changed(f, func(f *api.Fines) { change(&f.Rules[i]) }))
		}
		for _, n := range list(-1, api.FineCoins+1, math.MinInt, math.MaxInt) {
			bad(func(r *api.FineRule) { r.Base = n })
			bad(func(r *api.FineRule) { r.Step = n })
			bad(func(r *api.FineRule) { r.Most = n })
		}
		for _, n := range list(-1, api.FineHour+1, math.MinInt, math.MaxInt) {
			bad(func(r *api.FineRule) { r.Window = n })
		}
	}
	return all
}

// notValid returns fines that are not valid.
func notValid() []api.Fines {
	good := done(0, 1, 2, 0)
	// Without rules no Kind is the number of one.
	all := list(api.Fines{}, of(nil, 2, good), of(nil, 2, api.Offence{}), of(list(dear()), 2, api.Offence{}), of(make([]api.FineRule, api.FineRules+1), 2), of(make([]api.FineRule, 1<<12), 2), of(list(dear()), 2, slices.Repeat(list(good), api.FineList+1)...), of(list(dear()), 2, slices.Repeat(list(good), 1<<12)...))
	for _, f := range bases() {
		for _, riders := range list(0, 1, 3, 5, 7, 8, -1, -2, 64, math.MinInt, math.MaxInt, math.MaxInt-1) {
			all = append(all, changed(f, func(f *api.Fines) { f.Riders = riders }))
		}
		all = append(all, badOffences(f)...)
		all = append(all, badRules(f)...)
	}
	// Of fewer riders, or rules, what was valid is not.
	return append(all, changed(exampleF(), func(f *api.Fines) { f.Riders = 2 }), changed(exampleF(), func(f *api.Fines) { f.Rules = f.Rules[:1] }), changed(full(), func(f *api.Fines) { f.Riders = 4 }))
}

// P11.1 to P11.5, R1, R2: whatever else is asked for, fines that are not valid come first.
func TestNotValid(t *testing.T) {
	for _, f := range notValid() {
		refused(t, f, api.ErrArg)
	}
}

// P11.1, P11.2, P11.5, R1, R2: offences, riders and coins that are none.
func TestOutOfRange(t *testing.T) {
	for _, f := range append(bases(), of(nil, 2), of(nil, 4), of(nil, 6)) {
		for _, n := range odd() {
			if n < 0 || n >= len(f.List) {
				refusedOffence(t, f, n, api.ErrRange)
			}
			if n < 0 || n >= f.Riders {
				refusedRider(t, f, n, api.ErrRange)
				refusedWithdraw(t, f, n, 0, api.ErrRange)
				refusedWithdraw(t, f, n, 1<<40, api.ErrRange)
			}
			if n < 0 {
				refusedWithdraw(t, f, 0, n, api.ErrRange)
			} else if _, e := fine.Withdraw(f, f.Riders-1, n); e != api.OK {
				t.Error(f, n, e)
			}
		}
	}
}

// P11.4, R1, R2: not as many riders, or hours, as offences, and such that are none.
func TestNotKnown(t *testing.T) {
	for _, f := range bases() {
		riders, hours := slices.Repeat(list(f.Riders-1), len(f.List)), slices.Repeat(list(api.FineHour), len(f.List))
		if _, e := fine.Exact(f, riders, hours); e != api.OK {
			t.Error(f, e)
		}
		for _, other := range list(nil, riders[1:], append(slices.Clone(riders), 0), make([]int, 1<<16)) {
			refusedExact(t, f, other, hours, api.ErrRange)
			refusedExact(t, f, other, slices.Repeat(list(0), len(other)), api.ErrRange)
		}
		for _, other := range list(nil, hours[1:], append(slices.Clone(hours), 0), make([]int, 1<<16)) {
			refusedExact(t, f, riders, other, api.ErrRange)
		}
		for i := range f.List {
			for _, n := range list(-1, f.Riders, 64, math.MinInt, math.MaxInt) {
				other := slices.Clone(riders)
				other[i] = n
				refusedExact(t, f, other, hours, api.ErrRange)
			}
			for _, n := range list(-1, api.FineHour+1, math.MinInt, math.MaxInt) {
				other := slices.Clone(hours)
				other[i] = n
				refusedExact(t, f, riders, other, api.ErrRange)
			}
		}
	}
	refusedExact(t, of(nil, 2), list(0), list(0), api.ErrRange)
	refusedExact(t, of(nil, 2), nil, list(0), api.ErrRange)
	refusedExact(t, of(nil, 2), list(0), nil, api.ErrRange)
}

// P11.1 to P11.5, R7: the limits themselves are valid, and so is 0.
func TestLimits(t *testing.T) {
	a := ask(full())
	if a.total != so(span(5000, 5000)) || a.fines[5] != so(span(0, 5000)) || a.pays[5] != so(span(0, 2500)) || a.costs[4] != so(span(1000, 1000)) {
		t.Errorf("%+v", a)
	}
	if n := resultOf(fine.Withdraw(full(), 5, 3999)); n != so(set(0, 1)) {
		t.Error(n)
	}
	// All of one kind, by one of six riders, in one of three hours, each dearer than the one before.
	one := of(list(rule(200, 200, 1000, 144)), 6, slices.Repeat(list(done(0, 0, 2, 0, 1, 2, 3, 4, 5)), 5)...)
	b := ask(one)
	if b.total != so(span(1000, 3000)) || b.fines[0] != so(span(0, 3000)) || b.pays[3] != so(span(0, 1500)) || b.costs[0] != so(span(200, 1000)) {
		t.Errorf("%+v", b)
	}
	if n := resultOf(fine.Withdraw(one, 5, 1999)); n != so(set(0, 1)) {
		t.Error(n)
	}
	zero := of(list(rule(0, 0, 0, 0)), 2, done(0, 0, 0, 0))
	if c := ask(zero); c.total != so(span(0, 0)) || c.costs[0] != so(span(0, 0)) || c.fines[0] != so(span(0, 0)) {
		t.Errorf("%+v", c)
	}
}

// P1 of the document: no argument leads to a panic.
func TestAnyArguments(t *testing.T) {
	for _, a := range odd() {
		for _, b := range odd() {
			wild := api.Offence{Kind: a, Riders: b, Hours: span(b, a)}
			for _, f := range list(
				of(list(rule(a, b, a, b)), 2, done(0, 1, 1, 0)), of(list(rule(b, a, b, a), dear()), 6, wild), of(list(dear()), a, done(0, 1, 1, 0)), of(list(dear()), a, api.Offence{Riders: b}), of(list(dear()), 6, api.Offence{Riders: a, Hours: span(b, b)}, wild), of(list(dear()), 4, api.Offence{Riders: 1, Hours: span(a, b)}), exampleF(),
			) {
				ask(f)
				fine.Cost(f, a)
				fine.Fine(f, a)
				fine.Pays(f, a)
				fine.Withdraw(f, a, b)
				for _, l := range list(list(a), list(a, b), list(0, a, b, 1)) {
					fine.Exact(f, l, list(b, a))
					fine.Exact(f, l, l)
				}
			}
		}
	}
	ask(of(make([]api.FineRule, 1<<16), 1<<16, make([]api.Offence, 1<<16)...))
}

// R3: lists that are empty are as none.
func TestNilAndEmpty(t *testing.T) {
	none, empty := api.Fines{Riders: 2}, api.Fines{Riders: 2, Rules: []api.FineRule{}, List: []api.Offence{}}
	if a, b := ask(none), ask(empty); a != b || a.total != so(span(0, 0)) || a.fines[1] != so(span(0, 0)) || a.fines[2].e != api.ErrRange {
		t.Errorf("%+v %+v", a, b)
	}
	for _, f := range list(none, empty) {
		for _, l := range [][]int{nil, {}} {
			if costs, e := fine.Exact(f, l, nil); len(costs) != 0 || e != api.OK {
				t.Error(f, l, costs, e)
			}
			refusedExact(t, exampleF(), l, l, api.ErrRange)
		}
		if n := resultOf(fine.Withdraw(f, 0, 0)); n != so(0) {
			t.Error(f, n)
		}
	}
}

// P11.7: rules of which there is no offence change nothing.
func TestNotUsed(t *testing.T) {
	f := exampleF()
	more := changed(f, func(f *api.Fines) { f.Rules = append(f.Rules, rule(9, 9, 9, 9), rule(1, 1, 1, 1)) })
	if a, b := ask(f), ask(more); a != b {
		t.Errorf("%+v %+v", a, b)
	}
}

// R4: fines and lists are as they were, also what is behind their lists in the same memory, and what is told is the caller's own.
func TestMemory(t *testing.T) {
	rules, offences, riders, hours := append(exampleF().Rules, rule(9, 9, 9, 9)), append(exampleF().List, done(9, 9, 9, 9)), list(0, 0, 0, 2, 99), list(5, 12, 20, 1, 99)
	f := of(rules[:2], 4, offences[:4]...)
	was, before := copied(f), ask(f)
	kept, _ := fine.Exact(f, riders[:4], hours[:4])
	other, _ := fine.Exact(f, riders[:4], hours[:4])
	for i := range other[:cap(other)] {
		other[:cap(other)][i] = 99
	}
	for most := range 50 {
		fine.Withdraw(f, 0, most)
	}
	if !slices.Equal(kept, list(10, 15, 15, 4)) || ask(f) != before {
		t.Error("shared", kept, ask(f))
	}
	if !equal(f, was) || rules[2] != rule(9, 9, 9, 9) || offences[4] != done(9, 9, 9, 9) || !slices.Equal(riders, list(0, 0, 0, 2, 99)) || !slices.Equal(hours, list(5, 12, 20, 1, 99)) {
		t.Error(f, rules, offences, riders, hours)
	}
}

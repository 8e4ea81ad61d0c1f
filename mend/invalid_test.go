package mend_test

import (
	"math"
	"slices"
	"testing"

	"lapworks/api"
	"lapworks/mend"
)

// odd returns numbers, many of which are out of every range.
func odd() []int {
	return list(math.MinInt, math.MinInt+1, -1, 0, 1, 2, 3, 6, 30, 31, 50, 51, 63, 64, 300, 301, math.MaxInt)
}

// refusedOrder tests that nothing is told of an order but an error.
func refusedOrder(t *testing.T, m api.Mend, order []int, want api.Errno) {
	t.Helper()
	if times, e := mend.Times(m, order); len(times) != 0 || e != want {
		t.Errorf("Times %+v %v: %v %v", m, order, times, e)
	}
	if job, rule, e := mend.Check(m, order); job != 0 || rule != 0 || e != want {
		t.Errorf("Check %+v %v: %v %v %v", m, order, job, rule, e)
	}
	if minutes, e := mend.Slack(m, order); minutes != 0 || e != want {
		t.Errorf("Slack %+v %v: %v %v", m, order, minutes, e)
	}
}

// refusedAll tests that nothing is told of a mend but an error.
func refusedAll(t *testing.T, m api.Mend, want api.Errno) {
	t.Helper()
	none := outcome[int]{e: want}
	if a := ask(m); a != (told{none, none, none, none, outcome[string]{"0 []", want}}) {
		t.Errorf("%+v: %+v", m, a)
	}
}

// full returns a mend with as much of all as there can be.
func full() api.Mend {
	m := of(slices.Repeat(list(api.MendLong), api.MendKinds))
	for i := range api.MendJobs {
		m.Jobs = append(m.Jobs, job(i%api.MendKinds, api.MendLong, api.MendLong, api.MendHour, api.MendHour, api.MendHour, api.MendCost))
		m.Jobs[i].After = set(0, 1, 2, 3, 4, 5) &^ set(i)
	}
	return m
}

// bases returns valid mends of at least one job, with right orders and without.
func bases() []api.Mend {
	return list(exampleM(), exampleL(), full(), six(), of(list(0), easy(0, 1, 1)), of(list(1, 2), easy(1, 1, 30, 1), easy(0, 1, 30, 0)))
}

// badJobs returns mends of which one job alone is not valid.
func badJobs(m api.Mend) []api.Mend {
	var all []api.Mend
	for i := range m.Jobs {
		bad := func(change func(j *api.MendJob)) {
			all = append(all, changed(m, func(m *api.Mend) { change(&m.Jobs[i]) }))
		}
		for _, n := range list(-1, math.MinInt, math.MaxInt) {
			bad(func(j *api.MendJob) { j.Kind = n })
			bad(func(j *api.MendJob) { j.From = n })
			bad(func(j *api.MendJob) { j.Soft = n })
			bad(func(j *api.MendJob) { j.By = n })
			bad(func(j *api.MendJob) { j.Cost = n })
			bad(func(j *api.MendJob) { j.After = n })
		}
		bad(func(j *api.MendJob) { j.Kind = len(m.Setup) })
		bad(func(j *api.MendJob) { j.From = api.MendHour + 1 })
		bad(func(j *api.MendJob) { j.Soft = api.MendHour + 1 })
		bad(func(j *api.MendJob) { j.By = api.MendHour + 1 })
		bad(func(j *api.MendJob) { j.Cost = api.MendCost + 1 })
		// No set of other jobs: with itself, or with one that is none.
		bad(func(j *api.MendJob) { j.After |= set(i) })
		bad(func(j *api.MendJob) { j.After = set(i) })
		bad(func(j *api.MendJob) { j.After |= set(len(m.Jobs)) })
		bad(func(j *api.MendJob) { j.After = set(60) })
		for _, minutes := range list(span(0, 1), span(0, 0), span(-1, 3), span(2, 1), span(30, 29), span(1, 31), span(31, 31), span(5, -5), span(math.MinInt, math.MaxInt), span(1, math.MaxInt), span(math.MinInt, 1), span(math.MaxInt, math.MinInt)) {
			bad(func(j *api.MendJob) { j.Minutes = minutes })
		}
	}
	return all
}

// notValid returns mends that are not valid.
func notValid() []api.Mend {
	// Without Setup no Kind is the index of one.
	all := list(of(nil, easy(0, 1, 1)), of(nil, api.MendJob{}), of(list(1), api.MendJob{}), of(list(1, 2, 3, 4)), of(make([]int, 1<<12)), of(list(0), make([]api.MendJob, 1<<12)...))
	for _, n := range list(-1, api.MendLong+1, math.MinInt, math.MaxInt) {
		all = append(all, of(list(n)), of(list(0, n), easy(0, 1, 1)), of(list(n, 0), easy(1, 1, 1)), of(list(1, 1, n)))
	}
	for _, m := range bases() {
		all = append(all, badJobs(m)...)
		all = append(all, changed(m, func(m *api.Mend) { m.Setup = make([]int, api.MendKinds+1) }),
			changed(m, func(m *api.Mend) { m.Setup = m.Setup[:0] }),
			changed(m, func(m *api.Mend) { m.Jobs = slices.Repeat(list(easy(0, 1, 1)), api.MendJobs+1) }))
	}
	// Of fewer jobs, or kinds, what was valid is not.
	return append(all, changed(exampleM(), func(m *api.Mend) { m.Setup = m.Setup[:1] }), changed(exampleM(), func(m *api.Mend) { m.Jobs = m.Jobs[1:] }))
}

// P10.1 to P10.7, R1, R2: whatever else is asked for, a mend that is not valid comes first.
func TestNotValid(t *testing.T) {
	for _, m := range notValid() {
		refusedAll(t, m, api.ErrArg)
		for _, order := range list(nil, list(0), list(0, 1, 2), list(0, 2, 1), list(-1), list(0, 0, 0), list(0, 1, 2, 3, 4, 5), make([]int, min(len(m.Jobs), 10))) {
			refusedOrder(t, m, order, api.ErrArg)
		}
	}
}

// badOrders returns lists that do not have all jobs, each once, by one that does.
func badOrders(all []int) [][]int {
	wrong := list(all[1:], all[:len(all)-1], append(slices.Clone(all), 0), append(slices.Clone(all), len(all)), append(slices.Clone(all), all...), make([]int, 1<<16))
	for _, n := range list(-1, len(all), 63, 64, -64, math.MinInt, math.MaxInt) {
		for i := range all {
			order := slices.Clone(all)
			order[i] = n
			wrong = append(wrong, order)
		}
	}
	for i := range all[1:] {
		twice := slices.Clone(all)
		twice[i] = twice[i+1]
		wrong = append(wrong, twice)
	}
	return wrong
}

// P10.1 to P10.3, R1, R2: an order that is none comes before that it is right, or not.
func TestOutOfRange(t *testing.T) {
	for _, m := range append(bases(), of(list(0), job(0, 1, 1, 9, 0, 0, 0))) {
		var all []int
		for i := range m.Jobs {
			all = append(all, i)
		}
		if _, e := mend.Times(m, all); e != api.OK {
			t.Error(m, all, e)
		}
		for _, order := range badOrders(all) {
			refusedOrder(t, m, order, api.ErrRange)
		}
	}
	refusedOrder(t, of(nil), list(0), api.ErrRange)
	refusedOrder(t, of(list(1)), list(0, 1), api.ErrRange)
}

// P10.2, P10.3, P10.5, P10.6, R2: with ErrNone nothing else is told; but how many there are, what comes first and what must be left is.
func TestNone(t *testing.T) {
	for _, m := range list(exampleL(), full(), of(list(0), job(0, 1, 1, 0, 0, 0, 0)), of(list(0), easy(0, 1, 1, 1), easy(0, 1, 1, 0))) {
		a := ask(m)
		if a.count != so(0) || a.first != so(0) || a.until != (outcome[int]{e: api.ErrNone}) || a.best != (outcome[string]{"0 []", api.ErrNone}) || a.drop.e != api.OK || a.drop.result == 0 {
			t.Errorf("%+v: %+v", m, a)
		}
	}
	if job, rule, e := mend.Check(exampleM(), list(0, 2, 1)); job != 0 || rule != 0 || e != api.ErrNone {
		t.Error(job, rule, e)
	}
	if minutes, e := mend.Slack(exampleM(), list(0, 1, 2)); minutes != 0 || e != api.ErrNone {
		t.Error(minutes, e)
	}
}

// P10.1 to P10.7, R7: the limits themselves are valid, and so is 0.
func TestLimits(t *testing.T) {
	if a := ask(full()); a.drop != so(63) {
		t.Errorf("%+v", a)
	}
	times, e := mend.Times(full(), list(0, 1, 2, 3, 4, 5))
	if !slices.Equal(times, list(span(330, 330), span(390, 390), span(450, 450), span(510, 510), span(570, 570), span(630, 630))) || e != api.OK {
		t.Error(times, e)
	}
	// Five jobs of all 30 minutes are done just in time, and without a longer one each can take so many more.
	five := of(list(30, 30, 30), slices.Repeat(list(easy(2, 1, 30)), 5)...)
	if a := ask(five); a.count != so(120) || a.until != so(180) || a.first != so(31) || a.drop != so(0) || a.best != so("0 [0 1 2 3 4]") {
		t.Errorf("%+v", a)
	}
	if s := resultOf(mend.Slack(five, list(4, 3, 2, 1, 0))); s != so(24) {
		t.Error(s)
	}
	if s := resultOf(mend.Slack(six(), list(5, 4, 3, 2, 1, 0))); s != so(api.MendLong) {
		t.Error(s)
	}
	// All cost as much as they can in each minute.
	dear := of(list(30, 30, 30), slices.Repeat(list(job(1, 30, 30, 0, 0, 300, 50)), 6)...)
	if a := ask(dear); a.best != so("40500 [0 1 2 3 4 5]") || a.until != so(210) || a.count != so(720) {
		t.Errorf("%+v", a)
	}
	zero := of(list(0, 0, 0), job(0, 1, 1, 0, 0, 0, 0))
	if a := ask(zero); a.count != so(0) || a.drop != so(1) {
		t.Errorf("%+v", a)
	}
}

// P1 of the document: no argument leads to a panic.
func TestAnyArguments(t *testing.T) {
	for _, a := range odd() {
		for _, b := range odd() {
			wild := api.MendJob{Kind: a, Minutes: span(b, a), From: b, Soft: a, By: b, Cost: a, After: b}
			for _, m := range list(
				of(list(a, b), wild), of(list(1, 2), wild, easy(0, 1, 1)), of(list(1), api.MendJob{Minutes: span(a, b)}), of(list(1), easy(0, 1, 1), api.MendJob{Minutes: span(1, 2), After: a, By: b}),
				of(list(1), api.MendJob{Minutes: span(1, 30), From: a, By: b}), of(list(1), api.MendJob{Minutes: span(1, 30), Soft: a, Cost: b, By: 300}), exampleM(),
			) {
				ask(m)
				for _, order := range list(list(a), list(a, b), list(a, b, 0), list(0, a, b)) {
					mend.Times(m, order)
					mend.Check(m, order)
					mend.Slack(m, order)
				}
			}
		}
	}
	ask(of(make([]int, 1<<16), make([]api.MendJob, 1<<16)...))
	ask(api.Mend{})
}

// R3: lists that are empty are as none.
func TestNilAndEmpty(t *testing.T) {
	none, empty := api.Mend{}, api.Mend{Setup: []int{}, Jobs: []api.MendJob{}}
	if a, b := ask(none), ask(empty); a != b || a != (told{count: so(1), best: so("0 []")}) {
		t.Errorf("%+v %+v", a, b)
	}
	for _, m := range list(none, empty) {
		for _, order := range [][]int{nil, {}} {
			if times, e := mend.Times(m, order); len(times) != 0 || e != api.OK {
				t.Error(m, order, times, e)
			}
			if _, _, e := mend.Check(m, order); e != api.ErrNone {
				t.Error(m, order, e)
			}
			if s := resultOf(mend.Slack(m, order)); s != so(api.MendLong) {
				t.Error(m, order, s)
			}
			refusedOrder(t, exampleM(), order, api.ErrRange)
		}
	}
}

// P10.8, R4: mends and orders are as they were, also what is behind their lists in the same memory, and what is told is the caller's own.
func TestMemory(t *testing.T) {
	setup, jobs, order := list(2, 3, 99), append(exampleM().Jobs, easy(9, 9, 9)), list(0, 2, 1, 99)
	m := of(setup[:2], jobs[:3]...)
	was, before := copied(m), ask(m)
	overwrite := func() {
		times, _ := mend.Times(m, order[:3])
		for i := range times[:cap(times)] {
			times[:cap(times)][i] = span(99, 99)
		}
		_, best, _ := mend.Best(m)
		for i := range best[:cap(best)] {
			best[:cap(best)][i] = 99
		}
	}
	_, kept, _ := mend.Best(m)
	times, _ := mend.Times(m, order[:3])
	overwrite()
	mend.Check(m, order[:3])
	mend.Slack(m, order[:3])
	if !slices.Equal(kept, list(0, 2, 1)) || !slices.Equal(times, list(span(5, 6), span(6, 8), span(11, 14))) || ask(m) != before {
		t.Error("shared", kept, times, ask(m))
	}
	if !equal(m, was) || setup[2] != 99 || jobs[3] != easy(9, 9, 9) || !slices.Equal(order, list(0, 2, 1, 99)) {
		t.Error(m, setup, jobs, order)
	}
}

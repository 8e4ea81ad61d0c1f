package rest_test

import (
	"math"
	"slices"
	"testing"

	"lapworks/api"
	"lapworks/rest"
)

// odd returns numbers, many of which are out of every range.
func odd() []int {
	return list(math.MinInt, math.MinInt+1, -1, 0, 1, 2, 15, 16, 17, 63, 64, 1<<16-1, 1<<16, math.MaxInt)
}

// refusedCheck tests that a plan is refused with an error, and nothing else is returned.
func refusedCheck(t *testing.T, r api.Rest, plan []int, want api.Errno) {
	t.Helper()
	if hour, rule, e := rest.Check(r, plan); hour != 0 || rule != 0 || e != want {
		t.Errorf("Check %+v %v: %v %v %v", r, plan, hour, rule, e)
	}
}

// refusedHours tests that the hours of a rider are refused with an error.
func refusedHours(t *testing.T, r api.Rest, rider int, want api.Errno) {
	t.Helper()
	if s, e := rest.Hours(r, rider); s != (api.Span{}) || e != want {
		t.Errorf("Hours %+v %v: %v %v", r, rider, s, e)
	}
}

// refusedAll tests that nothing is told of a rest but an error.
func refusedAll(t *testing.T, r api.Rest, want api.Errno) {
	t.Helper()
	if n, e := rest.Count(r); n != 0 || e != want {
		t.Errorf("Count %+v: %v %v", r, n, e)
	}
	if n, plan, e := rest.Fewest(r); n != 0 || len(plan) != 0 || e != want {
		t.Errorf("Fewest %+v: %v %v %v", r, n, plan, e)
	}
	if n, plan, e := rest.Even(r); n != 0 || len(plan) != 0 || e != want {
		t.Errorf("Even %+v: %v %v %v", r, n, plan, e)
	}
	if zero, one, e := rest.Must(r); zero != 0 || one != 0 || e != want {
		t.Errorf("Must %+v: %v %v %v", r, zero, one, e)
	}
	if n, e := rest.Until(r); n != 0 || e != want {
		t.Errorf("Until %+v: %v %v", r, n, e)
	}
	if rider, hour, e := rest.Free(r); rider != 0 || hour != 0 || e != want {
		t.Errorf("Free %+v: %v %v %v", r, rider, hour, e)
	}
}

// notValid returns rests that are not valid.
func notValid() []api.Rest {
	var all []api.Rest
	bad := func(r api.Rest, change func(r *api.Rest)) { all = append(all, changed(r, change)) }
	for _, r := range list(exampleR(), exampleN(), two(0, free(), free()), two(16, free(), free()), two(3, rider(7, 0, 0, 0), rider(7, 0, 0, 0))) {
		for _, n := range list(-1, api.RestHours+1, 64, math.MinInt, math.MaxInt) {
			bad(r, func(r *api.Rest) { r.Hours = n })
			for i := range r.Riders {
				bad(r, func(r *api.Rest) { r.Riders[i].Total = n })
				bad(r, func(r *api.Rest) { r.Riders[i].Run = n })
				bad(r, func(r *api.Rest) { r.Riders[i].Off = n })
			}
		}
		// A set of hours has no other hours than there are.
		for _, n := range list(-1, 1<<r.Hours, 1<<r.Hours+1, 1<<16, math.MinInt, math.MaxInt) {
			for i := range r.Riders {
				bad(r, func(r *api.Rest) { r.Riders[i].Out = n })
			}
		}
	}
	return all
}

// P6.1 to P6.7, R1, R2: whatever else is asked for, a rest that is not valid comes first.
func TestNotValid(t *testing.T) {
	for _, r := range notValid() {
		refusedAll(t, r, api.ErrArg)
		for _, n := range list(0, 1, 2, -1, math.MaxInt) {
			refusedHours(t, r, n, api.ErrArg)
			refusedCheck(t, r, slices.Repeat(list(n), max(0, min(r.Hours, 20))), api.ErrArg)
		}
		refusedCheck(t, r, nil, api.ErrArg)
		refusedCheck(t, r, list(0, 0, 1, 1, 0, 0), api.ErrArg)
	}
}

// P6.1, P6.5, R1: a rider who is none comes before that no plan is right, and a plan that is none before that it is right, or not.
func TestOutOfRange(t *testing.T) {
	for _, r := range list(exampleR(), exampleN(), two(0, free(), free()), two(6, rider(63, 0, 0, 0), rider(63, 0, 0, 0))) {
		for _, n := range list(-1, 2, 3, math.MinInt, math.MaxInt) {
			refusedHours(t, r, n, api.ErrRange)
		}
	}
	for _, r := range list(exampleR(), exampleN(), two(6, free(), free()), two(6, rider(63, 0, 0, 0), rider(63, 0, 0, 0))) {
		plan := list(0, 0, 1, 1, 0, 0)
		for i := range plan {
			refusedCheck(t, r, plan[:i], api.ErrRange)
			for _, n := range list(-1, 2, math.MinInt, math.MaxInt) {
				wrong := slices.Clone(plan)
				wrong[i] = n
				refusedCheck(t, r, wrong, api.ErrRange)
			}
		}
		for _, n := range list(0, 1, 2) {
			refusedCheck(t, r, append(slices.Clone(plan), n), api.ErrRange)
		}
		refusedCheck(t, r, make([]int, 1<<16), api.ErrRange)
	}
	refusedCheck(t, two(0, free(), free()), list(0), api.ErrRange)
}

// P6.3 to P6.5, R2: nothing else is told if no plan is right.
func TestNoPlan(t *testing.T) {
	for _, r := range list(exampleN(), two(1, rider(0, 0, 1, 0), rider(1, 1, 1, 0)), two(16, rider(1<<15, 16, 16, 0), rider(1<<15, 16, 16, 0))) {
		refusedHours(t, r, 0, api.ErrNone)
		refusedHours(t, r, 1, api.ErrNone)
		a := ask(r)
		if a.fewest != (planned{0, "[]", api.ErrNone}) || a.even != a.fewest || a.must != (outcome[[2]int]{e: api.ErrNone}) || a.count != (outcome[int]{}) {
			t.Errorf("%+v: %+v", r, a)
		}
	}
}

// R7: the limits themselves are valid, and so is 0.
func TestLimits(t *testing.T) {
	most := rider(1<<16-1, 16, 16, 16)
	for i, x := range []struct {
		r api.Rest
		n int
	}{
		{two(16, most, most), 0}, {two(16, most, free()), 1}, {two(16, free(), most), 1}, {two(16, rider(0, 16, 16, 16), rider(0, 16, 16, 16)), 32},
		{two(0, rider(0, 16, 16, 16), rider(0, 16, 16, 16)), 1}, {two(0, rider(0, 0, 0, 0), rider(0, 0, 0, 0)), 1}, {two(5, rider(31, 0, 0, 0), rider(0, 16, 16, 16)), 1},
	} {
		if n, e := rest.Count(x.r); n != x.n || e != api.OK {
			t.Error(i, n, e)
		}
	}
}

// askAll calls all functions, and looks at no result.
func askAll(r api.Rest, plan []int, rider int) {
	ask(r)
	rest.Check(r, plan)
	rest.Hours(r, rider)
}

// P1 of the document: no argument leads to a panic.
func TestAnyArguments(t *testing.T) {
	for _, a := range odd() {
		for _, b := range odd() {
			for _, r := range list(two(a, rider(b, b, b, b), rider(a, a, a, a)), two(b, rider(0, a, b, 1), free()), two(6, rider(a, b, 6, 1), rider(b, 16, a, 1)), two(6, rider(0, 6, a, b), rider(1, 6, b, a))) {
				askAll(r, list(a, b, 0, 1, 1, 0), a)
				askAll(r, list(0, 0, 1, 0, 1, 1), b)
			}
		}
	}
	askAll(api.Rest{}, nil, 0)
	askAll(exampleR(), make([]int, 1<<16), 0)
}

// R3: an empty plan is the same as none.
func TestNilAndEmpty(t *testing.T) {
	r := two(0, free(), free())
	for _, plan := range [][]int{nil, {}} {
		refusedCheck(t, r, plan, api.ErrNone)
		refusedCheck(t, exampleR(), plan, api.ErrRange)
	}
}

// P6.8, R4: plans are as they were, also what is behind them in the same memory, and a plan that is told is the caller's own.
func TestMemory(t *testing.T) {
	behind := list(0, 0, 1, 1, 0, 0, 7, 8)
	plan := behind[:6]
	refusedCheck(t, exampleR(), plan, api.ErrNone)
	refusedCheck(t, exampleR(), plan[:5], api.ErrRange)
	if !slices.Equal(behind, list(0, 0, 1, 1, 0, 0, 7, 8)) {
		t.Error(behind)
	}
	for _, r := range list(exampleR(), two(16, free(), free()), two(1, free(), free())) {
		before := ask(r)
		_, fewest, _ := rest.Fewest(r)
		_, even, _ := rest.Even(r)
		wasEven := slices.Clone(even)
		fewest = fewest[:cap(fewest)]
		for i := range fewest {
			fewest[i] = 9
		}
		if !slices.Equal(even, wasEven) {
			t.Error("shared", r, even, wasEven)
		}
		if after := ask(r); after != before {
			t.Errorf("%+v: %+v, before %+v", r, after, before)
		}
	}
}

package rest_test

import (
	"fmt"
	"slices"
	"testing"

	"lapworks/api"
	"lapworks/rest"
)

// alone returns a rest in which the rider 0 alone has limits.
func alone(hours int, zero api.RestRider) api.Rest { return two(hours, zero, free()) }

// P6.1: the chapter's examples; the first hour, and of several rules there the first one; which hours count for a rule.
func TestCheck(t *testing.T) {
	for i, x := range []struct {
		r          api.Rest
		plan       []int
		hour, rule int
		e          api.Errno
	}{
		{exampleR(), list(0, 0, 1, 1, 0, 0), 0, 0, api.ErrNone}, {exampleR(), list(0, 0, 0, 1, 1, 0), 2, api.RestOut, api.OK}, {exampleR(), list(0, 1, 1, 1, 0, 0), 3, api.RestRun, api.OK},
		{two(0, free(), free()), nil, 0, 0, api.ErrNone}, {two(0, rider(0, 0, 0, 0), rider(0, 0, 0, 0)), list[int](), 0, 0, api.ErrNone},
		{two(1, rider(0, 1, 1, 16), rider(1, 0, 0, 16)), list(0), 0, 0, api.ErrNone},
		// All hours up to this one count for the total, this one, too.
		{alone(5, rider(0, 2, 16, 0)), list(0, 1, 0, 1, 1), 0, 0, api.ErrNone}, {alone(5, rider(0, 2, 16, 0)), list(0, 1, 0, 1, 0), 4, api.RestTotal, api.OK}, {alone(5, rider(0, 0, 16, 0)), list(1, 1, 1, 0, 0), 3, api.RestTotal, api.OK},
		// Only those without a break count for a run.
		{alone(6, rider(0, 16, 2, 0)), list(0, 0, 1, 0, 0, 1), 0, 0, api.ErrNone}, {alone(6, rider(0, 16, 2, 0)), list(1, 0, 0, 0, 0, 0), 3, api.RestRun, api.OK}, {alone(2, rider(0, 16, 0, 0)), list(1, 0), 1, api.RestRun, api.OK},
		// Whoever has not ridden need not have been off, nor whoever goes on.
		{alone(4, rider(0, 16, 16, 16)), list(1, 0, 0, 0), 0, 0, api.ErrNone}, {alone(4, rider(0, 16, 16, 16)), list(0, 0, 1, 1), 0, 0, api.ErrNone},
		{alone(5, rider(0, 16, 16, 3)), list(0, 1, 1, 1, 0), 0, 0, api.ErrNone}, {alone(5, rider(0, 16, 16, 3)), list(0, 1, 1, 0, 0), 3, api.RestOff, api.OK}, {alone(3, rider(0, 16, 16, 1)), list(0, 1, 0), 0, 0, api.ErrNone}, {alone(3, rider(0, 16, 16, 2)), list(0, 1, 0), 2, api.RestOff, api.OK},
		{exchanged(alone(5, rider(0, 16, 16, 3))), list(1, 0, 0, 1, 1), 3, api.RestOff, api.OK}, {alone(7, rider(0, 16, 16, 2)), list(0, 1, 1, 0, 1, 0, 0), 5, api.RestOff, api.OK},
		// Several rules in one hour, and several hours.
		{alone(3, rider(set(2), 1, 0, 2)), list(1, 1, 0), 2, api.RestOut, api.OK}, {alone(1, rider(1, 0, 0, 0)), list(0), 0, api.RestOut, api.OK}, {alone(1, rider(0, 0, 0, 0)), list(0), 0, api.RestTotal, api.OK},
		{alone(3, rider(0, 1, 16, 2)), list(0, 1, 0), 2, api.RestTotal, api.OK}, {alone(3, rider(set(2), 16, 16, 2)), list(0, 1, 0), 2, api.RestOut, api.OK}, {alone(3, rider(set(2), 1, 1, 2)), list(0, 0, 0), 1, api.RestTotal, api.OK}, {alone(3, rider(set(2), 16, 1, 2)), list(0, 0, 0), 1, api.RestRun, api.OK},
		{alone(4, rider(set(0, 3), 16, 16, 9)), list(1, 0, 1, 0), 3, api.RestOut, api.OK}, {alone(4, rider(set(0), 16, 16, 9)), list(1, 0, 1, 0), 3, api.RestOff, api.OK},
		{two(4, rider(set(1), 16, 16, 0), rider(set(0, 2), 16, 16, 0)), list(0, 1, 0, 1), 0, 0, api.ErrNone}, {two(4, rider(set(1), 16, 16, 0), rider(set(0, 2), 16, 16, 0)), list(0, 1, 1, 1), 2, api.RestOut, api.OK},
	} {
		if hour, rule, e := rest.Check(x.r, x.plan); hour != x.hour || rule != x.rule || e != x.e {
			t.Error(i, hour, rule, e)
		}
	}
}

// P6.2, P6.6: the chapter's examples; rests of no hour, of all, and of hours that nobody can ride.
func TestCountAndUntil(t *testing.T) {
	idle := rider(0, 0, 16, 0)
	for i, x := range []struct {
		r            api.Rest
		count, until int
	}{
		{exampleR(), 5, 6}, {exampleN(), 0, 2}, {two(0, free(), free()), 1, 0}, {two(0, idle, idle), 1, 0}, {two(16, free(), free()), 1 << 16, 16}, {two(16, idle, idle), 0, 0},
		{two(16, free(), idle), 1, 16}, {two(16, idle, free()), 1, 16}, {two(5, rider(0, 16, 3, 0), idle), 0, 3}, {two(5, rider(0, 4, 16, 0), idle), 0, 4},
		{two(4, rider(0, 16, 1, 0), rider(0, 16, 1, 0)), 2, 4}, {two(4, rider(0, 16, 1, 2), rider(0, 16, 1, 0)), 0, 3}, {two(4, rider(0, 16, 1, 1), rider(0, 16, 1, 1)), 2, 4},
		{two(5, rider(set(4), 16, 16, 0), rider(set(4), 16, 16, 0)), 0, 4}, {two(5, rider(set(0), 16, 16, 0), rider(set(0), 16, 16, 0)), 0, 0}, {two(16, rider(0, 8, 16, 0), rider(0, 7, 16, 0)), 0, 15},
		{two(16, rider(0, 8, 16, 0), rider(0, 8, 16, 0)), 12870, 16}, {two(16, rider(0, 16, 16, 16), rider(0, 16, 16, 16)), 32, 16},
		{two(4, rider(15, 16, 16, 0), free()), 1, 4}, {two(3, rider(0, 1, 16, 0), rider(0, 2, 16, 0)), 3, 3},
	} {
		if n, e := rest.Count(x.r); n != x.count || e != api.OK {
			t.Error("Count", i, n, e)
		}
		if n, e := rest.Until(x.r); n != x.until || e != api.OK {
			t.Error("Until", i, n, e)
		}
	}
}

// P6.3, P6.4: the chapter's examples; of several plans the first one.
func TestFewestAndEven(t *testing.T) {
	idle := rider(0, 0, 16, 0)
	once := rider(0, 16, 1, 0)
	for i, x := range []struct {
		r          api.Rest
		changes    int
		fewest     []int
		difference int
		even       []int
		none       bool
	}{
		{r: exampleR(), changes: 2, fewest: list(0, 0, 1, 1, 0, 0), difference: 0, even: list(0, 1, 1, 0, 1, 0)}, {r: exampleN(), none: true},
		{r: two(0, idle, idle)}, {r: two(1, idle, idle), none: true},
		{r: two(3, free(), free()), changes: 0, fewest: list(0, 0, 0), difference: 1, even: list(0, 0, 1)}, {r: two(4, free(), free()), changes: 0, fewest: list(0, 0, 0, 0), difference: 0, even: list(0, 0, 1, 1)},
		{r: two(3, idle, free()), changes: 0, fewest: list(1, 1, 1), difference: 3, even: list(1, 1, 1)}, {r: two(3, free(), idle), changes: 0, fewest: list(0, 0, 0), difference: 3, even: list(0, 0, 0)},
		{r: two(3, rider(set(2), 16, 16, 0), rider(set(0), 16, 16, 0)), changes: 1, fewest: list(0, 0, 1), difference: 1, even: list(0, 0, 1)},
		{r: two(3, rider(set(0), 16, 16, 0), free()), changes: 0, fewest: list(1, 1, 1), difference: 1, even: list(1, 0, 0)},
		{r: two(4, once, once), changes: 3, fewest: list(0, 1, 0, 1), difference: 0, even: list(0, 1, 0, 1)}, {r: two(3, once, once), changes: 2, fewest: list(0, 1, 0), difference: 1, even: list(0, 1, 0)},
		// The first hour is no change, whoever rides.
		{r: two(1, rider(1, 16, 16, 0), free()), changes: 0, fewest: list(1), difference: 1, even: list(1)},
		// A plan that comes first has more changes, or is less fair.
		{r: two(5, rider(0, 16, 2, 0), rider(0, 16, 2, 0)), changes: 2, fewest: list(0, 0, 1, 0, 0), difference: 1, even: list(0, 0, 1, 0, 1)},
		{r: two(4, rider(0, 16, 1, 0), rider(0, 3, 16, 0)), changes: 1, fewest: list(0, 1, 1, 1), difference: 0, even: list(0, 1, 0, 1)}, {r: two(4, rider(0, 16, 1, 0), free()), changes: 0, fewest: list(1, 1, 1, 1), difference: 0, even: list(0, 1, 0, 1)},
		{r: two(16, rider(0, 8, 2, 0), rider(0, 8, 2, 0)), changes: 7, fewest: list(0, 0, 1, 1, 0, 0, 1, 1, 0, 0, 1, 1, 0, 0, 1, 1), difference: 0, even: list(0, 0, 1, 0, 0, 1, 0, 0, 1, 1, 0, 1, 1, 0, 1, 1)},
	} {
		want := api.OK
		if x.none {
			want = api.ErrNone
		}
		if n, p, e := rest.Fewest(x.r); n != x.changes || !slices.Equal(p, x.fewest) || e != want {
			t.Error("Fewest", i, n, p, e)
		}
		if n, p, e := rest.Even(x.r); n != x.difference || !slices.Equal(p, x.even) || e != want {
			t.Error("Even", i, n, p, e)
		}
	}
}

// P6.5: the chapter's examples; hours that a rider can always ride, perhaps, and never.
func TestHoursAndMust(t *testing.T) {
	idle := rider(0, 0, 16, 0)
	for i, x := range []struct {
		r     api.Rest
		hours [2]api.Span
		must  [2]int
		e     api.Errno
	}{
		{exampleR(), [2]api.Span{span(3, 4), span(2, 3)}, [2]int{32, 4}, api.OK}, {exampleN(), [2]api.Span{}, [2]int{}, api.ErrNone},
		{two(0, idle, idle), [2]api.Span{}, [2]int{}, api.OK}, {two(1, idle, idle), [2]api.Span{}, [2]int{}, api.ErrNone}, {two(16, free(), free()), [2]api.Span{span(0, 16), span(0, 16)}, [2]int{}, api.OK},
		{two(16, free(), idle), [2]api.Span{span(16, 16), span(0, 0)}, [2]int{1<<16 - 1, 0}, api.OK}, {two(16, idle, free()), [2]api.Span{span(0, 0), span(16, 16)}, [2]int{0, 1<<16 - 1}, api.OK},
		{two(6, rider(0, 4, 16, 0), rider(0, 3, 16, 0)), [2]api.Span{span(3, 4), span(2, 3)}, [2]int{}, api.OK},
		{two(4, rider(set(0, 3), 16, 16, 0), rider(set(1), 16, 16, 0)), [2]api.Span{span(1, 2), span(2, 3)}, [2]int{set(1), set(0, 3)}, api.OK},
		// Nobody has the hour 1 as one of their Out, and still the rider 1 has to ride then.
		{two(3, rider(0, 2, 1, 1), rider(set(0), 1, 1, 1)), [2]api.Span{span(2, 2), span(1, 1)}, [2]int{set(0, 2), set(1)}, api.OK},
	} {
		for who, want := range x.hours {
			if s, e := rest.Hours(x.r, who); s != want || e != x.e {
				t.Error("Hours", i, who, s, e)
			}
		}
		if zero, one, e := rest.Must(x.r); zero != x.must[0] || one != x.must[1] || e != x.e {
			t.Error("Must", i, zero, one, e)
		}
	}
}

// P6.7: the chapter's examples; the first rider, and of theirs the first hour; what no free hour helps.
func TestFree(t *testing.T) {
	shut := rider(set(2, 4), 16, 16, 0)
	for i, x := range []struct {
		r           api.Rest
		rider, hour int
		e           api.Errno
	}{
		{exampleR(), 0, 0, api.ErrRefuse}, {exampleN(), 0, 2, api.OK}, {two(0, free(), free()), 0, 0, api.ErrRefuse}, {two(3, free(), free()), 0, 0, api.ErrRefuse},
		// One hour is not enough.
		{two(5, shut, shut), 0, 0, api.ErrNone}, {two(5, shut, rider(set(4), 16, 16, 0)), 0, 4, api.OK}, {two(5, rider(set(4), 16, 16, 0), shut), 0, 4, api.OK},
		// The rider 0 would ride too long, in all or without a break, or come back too early.
		{two(3, rider(set(1), 0, 16, 0), rider(set(1), 16, 16, 0)), 1, 1, api.OK}, {two(3, rider(set(1), 16, 1, 0), rider(set(0, 1), 16, 16, 0)), 1, 1, api.OK}, {two(3, rider(set(2), 16, 16, 2), rider(set(0, 2), 16, 1, 0)), 0, 2, api.OK}, {two(4, rider(set(3), 16, 16, 2), rider(set(0, 1, 3), 16, 16, 0)), 0, 3, api.OK}, {two(4, rider(set(2, 3), 16, 16, 2), rider(set(0, 1, 3), 16, 16, 0)), 1, 3, api.OK},
		// None has an hour of their Out that could be free.
		{two(3, rider(0, 1, 16, 0), rider(0, 1, 16, 0)), 0, 0, api.ErrNone}, {two(1, rider(0, 0, 0, 0), rider(0, 0, 0, 0)), 0, 0, api.ErrNone}, {two(16, rider(1<<16-1, 16, 16, 0), rider(0, 15, 16, 0)), 0, 0, api.OK}, {two(16, rider(1<<16-1, 16, 16, 0), rider(0, 16, 14, 0)), 0, 1, api.OK}, {two(16, rider(0, 15, 16, 0), rider(1<<16-1, 16, 16, 0)), 1, 0, api.OK},
	} {
		if who, hour, e := rest.Free(x.r); who != x.rider || hour != x.hour || e != x.e {
			t.Error(i, who, hour, e)
		}
	}
}

// The example 6 of the document.
func TestDocument(t *testing.T) {
	n := must(rest.Count(exampleR()))(t)
	_, plan, e := rest.Fewest(exampleR())
	if n != 5 || fmt.Sprint(plan) != "[0 0 1 1 0 0]" || e != api.OK {
		t.Error(n, plan, e)
	}
}

package fine_test

import (
	"fmt"
	"math/rand"
	"slices"
	"testing"

	"lapworks/api"
	"lapworks/fine"
)

func span(lo, hi int) api.Span { return api.Span{Lo: lo, Hi: hi} }

// list returns what is written as a list.
func list[T any](all ...T) []T { return all }

// set returns the set of some riders, or offences.
func set(numbers ...int) int {
	all := 0
	for _, n := range numbers {
		all |= 1 << n
	}
	return all
}

// has returns whether a number is in a set.
func has(set, number int) bool { return set>>number&1 == 1 }

// rule returns a rule.
func rule(base, step, most, window int) api.FineRule {
	return api.FineRule{Base: base, Step: step, Most: most, Window: window}
}

// done returns an offence that some riders can have done, from one hour to another one.
func done(kind, lo, hi int, riders ...int) api.Offence {
	return api.Offence{Kind: kind, Riders: set(riders...), Hours: span(lo, hi)}
}

// of returns fines.
func of(rules []api.FineRule, riders int, offences ...api.Offence) api.Fines {
	return api.Fines{Rules: rules, Riders: riders, List: offences}
}

// exampleF is the fines of the chapter's examples.
func exampleF() api.Fines {
	return of(list(rule(10, 5, 18, 10), rule(4, 0, 4, 0)), 4, done(0, 5, 5, 0), done(0, 12, 14, 0, 1), done(0, 20, 20, 0), done(1, 1, 1, 2, 3))
}

// copied returns the same fines in memory of their own.
func copied(f api.Fines) api.Fines {
	return of(slices.Clone(f.Rules), f.Riders, slices.Clone(f.List)...)
}

// changed returns fines with something changed in them.
func changed(f api.Fines, change func(f *api.Fines)) api.Fines {
	f = copied(f)
	change(&f)
	return f
}

// equal returns whether fines are the same.
func equal(a, b api.Fines) bool {
	return slices.Equal(a.Rules, b.Rules) && a.Riders == b.Riders && slices.Equal(a.List, b.List)
}

// only returns fines with those offences alone that are such.
func only(f api.Fines, such func(number int, o api.Offence) bool) api.Fines {
	other := of(f.Rules, f.Riders)
	for number, o := range f.List {
		if such(number, o) {
			other.List = append(other.List, o)
		}
	}
	return other
}

// without returns fines without the offences of a set.
func without(f api.Fines, offences int) api.Fines {
	return only(f, func(number int, o api.Offence) bool { return !has(offences, number) })
}

// known returns fines of which it is known who did each offence, and when.
func known(f api.Fines, t truth) api.Fines {
	return changed(f, func(f *api.Fines) {
		for i := range f.List {
			f.List[i].Riders, f.List[i].Hours = set(t.riders[i]), span(t.hours[i], t.hours[i])
		}
	})
}

// truth is who did each offence, and when.
type truth struct{ riders, hours []int }

// truly returns a truth of fines.
func truly(r *rand.Rand, f api.Fines) truth {
	var t truth
	for _, o := range f.List {
		rider := r.Intn(f.Riders)
		for !has(o.Riders, rider) {
			rider = r.Intn(f.Riders)
		}
		t.riders = append(t.riders, rider)
		t.hours = append(t.hours, o.Hours.Lo+r.Intn(o.Hours.Hi-o.Hours.Lo+1))
	}
	return t
}

// randomFines returns fines of so many offences in few hours. Of how much is due most is least, and sometimes more than that.
func randomFines(r *rand.Rand, offences, hours int) api.Fines {
	f := of(nil, 2*(1+r.Intn(3)))
	for range 1 + r.Intn(r.Intn(api.FineRules)+1) {
		f.Rules = append(f.Rules, rule(r.Intn(12), r.Intn(8), r.Intn(30), r.Intn(hours+1)))
	}
	for range offences {
		f.List = append(f.List, randomOffence(r, f, hours))
	}
	return f
}

// randomOffence returns an offence by somebody, or by one of several riders.
func randomOffence(r *rand.Rand, f api.Fines, hours int) api.Offence {
	lo := r.Intn(hours)
	o := done(r.Intn(len(f.Rules)), lo, min(api.FineHour, lo+r.Intn(api.FineWide+1)))
	for o.Riders == 0 {
		o.Riders = r.Intn(1<<f.Riders) & (r.Intn(1<<f.Riders) | r.Intn(2)*(1<<f.Riders-1))
	}
	return o
}

// outcome is a result with its error.
type outcome[T any] struct {
	result T
	e      api.Errno
}

// so returns a result without an error.
func so[T any](result T) outcome[T] { return outcome[T]{result, api.OK} }

// resultOf returns a result and its error as one thing.
func resultOf[T any](result T, e api.Errno) outcome[T] { return outcome[T]{result, e} }

// writtenOf returns a list, written out, and its error as one thing.
func writtenOf(costs []int, e api.Errno) outcome[string] { return resultOf(fmt.Sprint(costs), e) }

// must returns what takes a result that has no error.
func must[T any](result T, e api.Errno) func(t *testing.T) T {
	return func(t *testing.T) T {
		t.Helper()
		if e != api.OK {
			t.Fatal(e)
		}
		return result
	}
}

// told is all spans that are told of fines, by offence and by rider.
type told struct {
	costs       [api.FineList]outcome[api.Span]
	fines, pays [api.FineRiders]outcome[api.Span]
	total       outcome[api.Span]
}

// ask returns all spans that are told of fines.
func ask(f api.Fines) told {
	a := told{total: resultOf(fine.Total(f))}
	for i := range a.costs {
		a.costs[i] = resultOf(fine.Cost(f, i))
	}
	for i := range a.fines {
		a.fines[i], a.pays[i] = resultOf(fine.Fine(f, i)), resultOf(fine.Pays(f, i))
	}
	return a
}

// exactly returns what each offence costs in a truth.
func exactly(t *testing.T, f api.Fines, x truth) []int {
	t.Helper()
	return must(fine.Exact(f, x.riders, x.hours))(t)
}

// within returns whether a number is in a span.
func within(n int, s api.Span) bool { return n >= s.Lo && n <= s.Hi }

// inside returns whether a span is in another one.
func inside(s, other api.Span) bool { return s.Lo >= other.Lo && s.Hi <= other.Hi }

// sharper returns whether nothing is told less exactly than before.
func (a told) sharper(before told) bool {
	sharp := func(one, other outcome[api.Span]) bool {
		return one.e == other.e && inside(one.result, other.result)
	}
	for i := range a.costs {
		if !sharp(a.costs[i], before.costs[i]) {
			return false
		}
	}
	for i := range a.fines {
		if !sharp(a.fines[i], before.fines[i]) || !sharp(a.pays[i], before.pays[i]) {
			return false
		}
	}
	return sharp(a.total, before.total)
}

package rest_test

import (
	"fmt"
	"math/rand"
	"testing"

	"lapworks/api"
	"lapworks/rest"
)

func span(lo, hi int) api.Span { return api.Span{Lo: lo, Hi: hi} }

// list returns what is written as a list.
func list[T any](all ...T) []T { return all }

// set returns the set of some hours.
func set(hours ...int) int {
	all := 0
	for _, hour := range hours {
		all |= 1 << hour
	}
	return all
}

func rider(out, total, run, off int) api.RestRider {
	return api.RestRider{Out: out, Total: total, Run: run, Off: off}
}

func two(hours int, zero, one api.RestRider) api.Rest {
	return api.Rest{Hours: hours, Riders: [2]api.RestRider{zero, one}}
}

// free returns a rider who can ride in all hours.
func free() api.RestRider { return rider(0, api.RestHours, api.RestHours, 0) }

// exampleR and exampleN are the rests of the chapter's examples.
func exampleR() api.Rest { return two(6, rider(set(2), 4, 2, 1), rider(set(5), 3, 2, 1)) }

func exampleN() api.Rest { return two(6, rider(set(2), 4, 2, 1), rider(set(2, 5), 3, 2, 1)) }

// exchanged returns a rest with both riders in each other's place.
func exchanged(r api.Rest) api.Rest { return two(r.Hours, r.Riders[1], r.Riders[0]) }

// changed returns a rest with something changed in it.
func changed(r api.Rest, change func(r *api.Rest)) api.Rest {
	change(&r)
	return r
}

// shorter returns a rest of the first hours alone.
func shorter(r api.Rest, hours int) api.Rest {
	return changed(r, func(r *api.Rest) {
		r.Hours = hours
		for i := range r.Riders {
			r.Riders[i].Out &= 1<<hours - 1
		}
	})
}

// with returns a rest with an out more, and without one with one fewer.
func with(r api.Rest, rider, hour int) api.Rest {
	return changed(r, func(r *api.Rest) { r.Riders[rider].Out |= 1 << hour })
}

func without(r api.Rest, rider, hour int) api.Rest {
	return changed(r, func(r *api.Rest) { r.Riders[rider].Out &^= 1 << hour })
}

// randomRider returns a rider who cannot ride in about one of so many hours.
func randomRider(r *rand.Rand, hours, rare int) api.RestRider {
	out := 0
	for hour := range hours {
		if r.Intn(rare) == 0 {
			out |= 1 << hour
		}
	}
	return rider(out, min(api.RestHours, hours/3+r.Intn(hours+1)), 1+r.Intn(4), r.Intn(5)/(1+r.Intn(2)))
}

// randomRest returns a rest of so many hours.
func randomRest(r *rand.Rand, hours int) api.Rest {
	rare := 2 + r.Intn(12)
	return two(hours, randomRider(r, hours, rare), randomRider(r, hours, rare))
}

// possible returns a rest of so many hours for which a plan is right.
func possible(r *rand.Rand, hours int) api.Rest {
	for range 10000 {
		one := randomRest(r, hours)
		if n, _ := rest.Count(one); n > 0 {
			return one
		}
	}
	panic("no plan is right for any of many rests")
}

// must returns what takes a result that has no error.
func must[T any](result T, e api.Errno) func(t *testing.T) T {
	return func(t *testing.T) T {
		t.Helper()
		if e != api.OK {
			t.Fatal(e)
		}
		return result
	}
}

// outcome is a result with its error.
type outcome[T any] struct {
	result T
	e      api.Errno
}

// planned is a plan, written out, and what is told of it.
type planned struct {
	number int
	plan   string
	e      api.Errno
}

// plannedOf returns a plan and what is told of it as one thing.
func plannedOf(number int, plan []int, e api.Errno) planned {
	return planned{number, fmt.Sprint(plan), e}
}

// pairOf returns two numbers as one result.
func pairOf(a, b int, e api.Errno) outcome[[2]int] { return outcome[[2]int]{[2]int{a, b}, e} }

// resultOf returns a result and its error as one thing.
func resultOf[T any](result T, e api.Errno) outcome[T] { return outcome[T]{result, e} }

// told is all that is told of a rest, but for what is wrong with plans.
type told struct {
	count, until outcome[int]
	fewest, even planned
	hours        [2]outcome[api.Span]
	must, free   outcome[[2]int]
}

// ask returns all that is told of a rest.
func ask(r api.Rest) told {
	return told{
		count: resultOf(rest.Count(r)), until: resultOf(rest.Until(r)),
		fewest: plannedOf(rest.Fewest(r)), even: plannedOf(rest.Even(r)),
		hours: [2]outcome[api.Span]{resultOf(rest.Hours(r, 0)), resultOf(rest.Hours(r, 1))},
		must:  pairOf(rest.Must(r)), free: pairOf(rest.Free(r)),
	}
}

// inside returns whether all of one span is in another one.
func inside(s, of api.Span) bool { return s.Lo >= of.Lo && s.Hi <= of.Hi }

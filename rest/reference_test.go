package rest_test

import (
	"fmt"
	"math/rand"
	"slices"
	"testing"

	"lapworks/api"
	"lapworks/rest"
)

// What the chapter defines is done here as it stands there: all plans are written down, the first one first, and then it is looked which of them break no rule.

// plans returns all plans for so many hours, the first one first.
func plans(hours int) [][]int {
	all := [][]int{nil}
	for range hours {
		var longer [][]int
		for _, p := range all {
			longer = append(longer, append(slices.Clone(p), 0), append(slices.Clone(p), 1))
		}
		all = longer
	}
	return all
}

// ridden returns in how many hours of a plan a rider rides.
func ridden(plan []int, rider int) int {
	n := 0
	for _, one := range plan {
		if one == rider {
			n++
		}
	}
	return n
}

// broken returns the rules that a plan breaks in an hour.
func broken(r api.Rest, plan []int, hour int) []int {
	var all []int
	who := plan[hour]
	limits := r.Riders[who]
	before := plan[:hour]
	if limits.Out&(1<<hour) != 0 {
		all = append(all, api.RestOut)
	}
	if ridden(before, who)+1 > limits.Total {
		all = append(all, api.RestTotal)
	}
	run := 1
	for hour-run >= 0 && plan[hour-run] == who {
		run++
	}
	if run > limits.Run {
		all = append(all, api.RestRun)
	}
	last := hour - 1
	for last >= 0 && plan[last] != who {
		last--
	}
	if last >= 0 && last < hour-1 && hour-1-last < limits.Off {
		all = append(all, api.RestOff)
	}
	return all
}

// wrong returns the first hour in which a plan breaks a rule, and the first rule that it breaks there.
func wrong(r api.Rest, plan []int) outcome[[2]int] {
	for hour := range plan {
		if rules := broken(r, plan, hour); len(rules) > 0 {
			return outcome[[2]int]{[2]int{hour, slices.Min(rules)}, api.OK}
		}
	}
	return outcome[[2]int]{e: api.ErrNone}
}

// rights returns all right plans for the first hours, the first one first.
func rights(r api.Rest, hours int) [][]int {
	return slices.DeleteFunc(plans(hours), func(p []int) bool { return wrong(r, p).e == api.OK })
}

// changes returns how many changes a plan has.
func changes(plan []int) int {
	n := 0
	for i := 1; i < len(plan); i++ {
		if plan[i] != plan[i-1] {
			n++
		}
	}
	return n
}

// apart returns by how many hours one rider rides more than the other one.
func apart(plan []int) int {
	n := ridden(plan, 0) - ridden(plan, 1)
	return max(n, -n)
}

// first returns the first of some plans that has the least of something.
func first(all [][]int, number func(plan []int) int) planned {
	var least []int
	for _, p := range all {
		if least == nil || number(p) < number(least) {
			least = p
		}
	}
	return planned{number(least), fmt.Sprint(least), api.OK}
}

// always returns the set of the hours in which a rider rides by each of some plans.
func always(all [][]int, hours, rider int) int {
	in := 0
	for hour := range hours {
		if !slices.ContainsFunc(all, func(p []int) bool { return p[hour] != rider }) {
			in |= 1 << hour
		}
	}
	return in
}

// freed returns which out has to be none for a plan to be right.
func freed(r api.Rest) outcome[[2]int] {
	for rider, limits := range r.Riders {
		for hour := range r.Hours {
			if limits.Out>>hour&1 == 1 && len(rights(without(r, rider, hour), r.Hours)) > 0 {
				return outcome[[2]int]{[2]int{rider, hour}, api.OK}
			}
		}
	}
	return outcome[[2]int]{e: api.ErrNone}
}

// expected returns all that has to be told of a rest.
func expected(r api.Rest) told {
	all := rights(r, r.Hours)
	a := told{count: outcome[int]{len(all), api.OK}, until: outcome[int]{r.Hours, api.OK}}
	if len(all) == 0 {
		a.fewest, a.even = planned{0, "[]", api.ErrNone}, planned{0, "[]", api.ErrNone}
		a.hours = [2]outcome[api.Span]{{e: api.ErrNone}, {e: api.ErrNone}}
		a.must.e = api.ErrNone
		for len(rights(r, a.until.result)) == 0 {
			a.until.result--
		}
		a.free = freed(r)
		return a
	}
	a.fewest, a.even = first(all, changes), first(all, apart)
	for rider := range a.hours {
		var many []int
		for _, p := range all {
			many = append(many, ridden(p, rider))
		}
		a.hours[rider].result = span(slices.Min(many), slices.Max(many))
		a.must.result[rider] = always(all, r.Hours, rider)
	}
	a.free.e = api.ErrRefuse
	return a
}

// checked tests all that is told of a rest, but for what is wrong with plans, and returns it.
func checked(t *testing.T, r api.Rest) told {
	t.Helper()
	a, want := ask(r), expected(r)
	if a != want {
		t.Errorf("%+v: %+v, not %+v", r, a, want)
	}
	return a
}

// P6.1: all plans of many rests.
func TestCheckAll(t *testing.T) {
	r := rand.New(rand.NewSource(101))
	found := map[outcome[int]]int{}
	for i := range 300 {
		one := randomRest(r, i%10)
		for _, p := range plans(one.Hours) {
			got, want := pairOf(rest.Check(one, p)), wrong(one, p)
			if got != want {
				t.Errorf("%+v %v: %v, not %v", one, p, got, want)
			}
			found[outcome[int]{want.result[1], want.e}]++
		}
	}
	for rule := range api.RestOff + 1 {
		if found[outcome[int]{rule, api.OK}]+found[outcome[int]{rule, api.ErrNone}] < 300 {
			t.Error("too few of a kind for a test", found)
		}
	}
}

// P6.2 to P6.7, P6.9: rests of some hours.
func TestAgainstAllPlans(t *testing.T) {
	r := rand.New(rand.NewSource(102))
	found := map[api.Errno]int{}
	for i := range 1500 {
		a := checked(t, randomRest(r, i%10))
		found[a.free.e]++
	}
	if found[api.OK] < 60 || found[api.ErrNone] < 150 || found[api.ErrRefuse] < 400 {
		t.Error("too few of a kind for a test", found)
	}
}

// P6.2 to P6.7: all rests of no hour, of one, and of two.
func TestAllShortRests(t *testing.T) {
	for hours := range 3 {
		var all []api.RestRider
		for out := range 1 << hours {
			for total := range hours + 2 {
				for run := range hours + 2 {
					all = append(all, rider(out, total, run, 0), rider(out, total, run, 16))
				}
			}
		}
		for _, zero := range all {
			for _, one := range all {
				checked(t, two(hours, zero, one))
			}
		}
	}
}

// P6.2 to P6.7: rests of as many hours as there can be, or nearly.
func TestLongRests(t *testing.T) {
	r := rand.New(rand.NewSource(103))
	for i := range 8 {
		checked(t, possible(r, api.RestHours-i%3))
	}
	checked(t, two(api.RestHours, rider(0, 16, 16, 16), rider(0, 16, 16, 16)))
	checked(t, two(api.RestHours, rider(set(15), 8, 2, 2), rider(set(15), 8, 2, 2)))
}

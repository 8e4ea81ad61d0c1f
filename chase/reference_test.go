package chase_test

import (
	"fmt"
	"math/bits"
	"math/rand"
	"slices"
	"testing"

	"lapworks/api"
	"lapworks/chase"
)

// What the chapter defines is done here as it stands there: all truths are written down, each with a time of each pair, and then it is looked what is so in them.

// right returns whether all watches of a pair but those of a set are right if it has a time.
func right(told []int, wrong, set, time int) bool {
	for watch, said := range told {
		if set>>watch&1 == 0 && max(said-time, time-said) > wrong {
			return false
		}
	}
	return true
}

// rights returns all times with which all watches of a pair but those of a set are right.
func rights(told []int, wrong, set int) []int {
	var all []int
	for time := range api.ChaseTime + 10*api.ChaseError {
		if right(told, wrong, set, time) {
			all = append(all, time)
		}
	}
	return all
}

// truths returns the times of all pairs, of each truth.
func truths(c api.Chase) [][]int {
	all := [][]int{nil}
	for _, told := range c.Pairs {
		var longer [][]int
		for _, times := range all {
			for _, time := range rights(told, c.Error, 0) {
				longer = append(longer, append(slices.Clone(times), time))
			}
		}
		all = longer
	}
	return all
}

// orderOf returns the order of a truth.
func orderOf(times []int) []int {
	var order []int
	for pair := range times {
		order = append(order, pair)
	}
	slices.SortStableFunc(order, func(a, b int) int { return times[a] - times[b] })
	return order
}

// seen is a truth with its order, and the place of each pair.
type seen struct{ times, order, places []int }

// seenOf returns all truths with what is seen in them.
func seenOf(c api.Chase) []seen {
	var all []seen
	for _, times := range truths(c) {
		s := seen{times, orderOf(times), make([]int, len(times))}
		for place, pair := range s.order {
			s.places[pair] = place
		}
		all = append(all, s)
	}
	return all
}

// spanOf returns the span from the least to the greatest of a number, of all truths.
func spanOf(all []seen, number func(s seen) int) outcome[api.Span] {
	var each []int
	for _, s := range all {
		each = append(each, number(s))
	}
	return outcome[api.Span]{result: span(slices.Min(each), slices.Max(each))}
}

// whether returns whether something is so in all truths, in none, or in some.
func whether(all []seen, so func(s seen) bool) int {
	not := func(s seen) bool { return !so(s) }
	switch {
	case !slices.ContainsFunc(all, not):
		return api.ChaseAlways
	case !slices.ContainsFunc(all, so):
		return api.ChaseNever
	}
	return api.ChasePerhaps
}

// wrongOf returns which watches must be wrong.
func wrongOf(told []int, wrong int) int {
	best := 1<<len(told) - 1
	for set := range best {
		if len(rights(told, wrong, set)) > 0 && bits.OnesCount(uint(set)) < bits.OnesCount(uint(best)) {
			best = set
		}
	}
	return best
}

// openOf returns whether some pair perhaps comes into the final.
func openOf(c api.Chase, all []seen) bool {
	for pair := range c.Pairs {
		if whether(all, func(s seen) bool { return s.places[pair] < c.Final }) == api.ChasePerhaps {
			return true
		}
	}
	return false
}

// askedOf returns whose time settles the final.
func askedOf(c api.Chase, all []seen) outcome[int] {
	if !openOf(c, all) {
		return outcome[int]{e: api.ErrRefuse}
	}
pairs:
	for pair, told := range c.Pairs {
		for _, time := range rights(told, c.Error, 0) {
			if openOf(c, slices.DeleteFunc(slices.Clone(all), func(s seen) bool { return s.times[pair] != time })) {
				continue pairs
			}
		}
		return outcome[int]{result: pair}
	}
	return outcome[int]{e: api.ErrNone}
}

// clashing returns what has to be told of a chase without a truth, but for what is told of single pairs.
func clashing() told {
	clash := outcome[int]{e: api.ErrClash}
	return told{cut: outcome[api.Span]{e: api.ErrClash}, orders: clash, ask: clash, first: outcome[string]{"[]", api.ErrClash}}
}

// expected returns all that has to be told of a chase.
func expected(c api.Chase) told {
	all := seenOf(c)
	a := clashing()
	if len(all) > 0 {
		a = expectedOf(c, all)
	}
	for pair, told := range c.Pairs {
		a.wrong[pair].result = wrongOf(told, c.Error)
		if len(all) == 0 {
			a.times[pair].e, a.places[pair].e, a.finals[pair].e = api.ErrClash, api.ErrClash, api.ErrClash
			for other := range c.Pairs {
				a.meets[pair][other].e = api.ErrClash
			}
		}
		a.meets[pair][pair] = outcome[int]{e: api.ErrRange}
	}
	return a
}

// expectedOf returns what has to be told of a chase with such truths, but for which watches must be wrong, and for pairs that meet themselves.
func expectedOf(c api.Chase, all []seen) told {
	a := told{ask: askedOf(c, all), cut: spanOf(all, func(s seen) int { return s.times[s.order[c.Final-1]] })}
	orders := map[string]bool{}
	first := all[0].order
	for _, s := range all {
		orders[fmt.Sprint(s.order)] = true
		if slices.Compare(s.order, first) < 0 {
			first = s.order
		}
	}
	a.orders.result, a.first.result = len(orders), fmt.Sprint(first)
	for pair := range c.Pairs {
		a.times[pair] = spanOf(all, func(s seen) int { return s.times[pair] })
		a.places[pair] = spanOf(all, func(s seen) int { return s.places[pair] })
		a.finals[pair].result = whether(all, func(s seen) bool { return s.places[pair] < c.Final })
		for other := range c.Pairs {
			a.meets[pair][other].result = whether(all, func(s seen) bool { return s.places[pair]+s.places[other] == len(c.Pairs)-1 })
		}
	}
	return a
}

// checked tests all that is told of a chase, and returns it.
func checked(t *testing.T, c api.Chase) told {
	t.Helper()
	a, want := ask(c), expected(c)
	if a != want {
		t.Errorf("%+v: %+v, not %+v", c, a, want)
	}
	return a
}

// P7.1 to P7.8: chases of which there are truths, with times near to each other, also with the least and the greatest times that there are.
func TestAgainstAllTruths(t *testing.T) {
	r := rand.New(rand.NewSource(201))
	found := map[api.Errno]int{}
	finals := map[int]int{}
	for i := range 2000 {
		from := list(0, 50, 190)[i%3]
		c, _ := observed(r, 1+r.Intn(4), r.Intn(api.ChaseError+1), from, from+1+r.Intn(10))
		a := checked(t, c)
		found[a.ask.e]++
		for pair := range c.Pairs {
			finals[a.finals[pair].result]++
		}
	}
	if found[api.OK] < 100 || found[api.ErrNone] < 100 || found[api.ErrRefuse] < 100 || finals[api.ChaseNever] < 100 || finals[api.ChasePerhaps] < 100 || finals[api.ChaseAlways] < 100 {
		t.Error("too few of a kind for a test", found, finals)
	}
}

// P7.1 to P7.8: chases with as many pairs as there can be, or one fewer.
func TestManyPairs(t *testing.T) {
	r := rand.New(rand.NewSource(202))
	found := map[api.Errno]int{}
	for i := range 100 {
		c, _ := observed(r, api.ChasePairs-i%2, 1, 50, 52+r.Intn(6))
		found[checked(t, c).ask.e]++
	}
	for final := range api.ChasePairs {
		checked(t, even(1, 1+final, api.ChasePairs))
	}
	checked(t, even(2, 3, api.ChasePairs-1))
	if found[api.OK] < 5 || found[api.ErrNone] < 10 || found[api.ErrRefuse] < 5 {
		t.Error("too few of a kind for a test", found)
	}
}

// P7.1 to P7.7: all chases of two pairs with one watch each, and times near to 0.
func TestAllSmallChases(t *testing.T) {
	for wrong := range api.ChaseError + 1 {
		for final := range 2 {
			for a := range 9 {
				for b := range 9 {
					checked(t, of(wrong, 1+final, list(a), list(b)))
				}
			}
		}
	}
}

// P7.2: watches that need not be right: nothing else is told but which must be wrong.
func TestWrongWatches(t *testing.T) {
	r := rand.New(rand.NewSource(203))
	clashes := 0
	for i := range 800 {
		from := list(0, 50, 185)[i%3]
		a := checked(t, muddled(r, 1+r.Intn(3), r.Intn(api.ChaseError+1), from, from+1+r.Intn(15)))
		if a.orders.e == api.ErrClash {
			clashes++
		}
	}
	if clashes < 200 || clashes > 700 {
		t.Error("too few of a kind for a test", clashes)
	}
}

// P7.2: all that three watches can tell of a pair.
func TestAllWrong(t *testing.T) {
	for wrong := range api.ChaseError + 1 {
		for i := range 9 * 9 * 9 {
			told := list(i%9, i/9%9, i/81)
			if n, e := chase.Wrong(of(wrong, 1, told), 0); n != wrongOf(told, wrong) || e != api.OK {
				t.Error(wrong, told, n, e)
			}
		}
	}
}

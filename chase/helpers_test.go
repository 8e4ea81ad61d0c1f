package chase_test

import (
	"fmt"
	"math/rand"
	"slices"
	"testing"

	"lapworks/api"
	"lapworks/chase"
)

func span(lo, hi int) api.Span { return api.Span{Lo: lo, Hi: hi} }

// list returns what is written as a list.
func list[T any](all ...T) []T { return all }

// of returns a chase of pairs with such watches.
func of(wrong, final int, pairs ...[]int) api.Chase {
	return api.Chase{Error: wrong, Final: final, Pairs: pairs}
}

// exampleC, exampleD and exampleW are the chases of the chapter's examples.
func exampleC() api.Chase { return of(1, 2, list(50, 51), list(52), list(53, 54), list(51)) }

func exampleD() api.Chase { return of(1, 1, list(52), list(53, 51)) }

func exampleW() api.Chase { return of(1, 1, list(49, 53)) }

// even returns a chase of so many pairs all of which were told the same time.
func even(wrong, final, pairs int) api.Chase {
	return of(wrong, final, slices.Repeat(list(list(50)), pairs)...)
}

// copied returns the same chase in memory of its own.
func copied(c api.Chase) api.Chase {
	c.Pairs = slices.Clone(c.Pairs)
	for pair, told := range c.Pairs {
		c.Pairs[pair] = slices.Clone(told)
	}
	return c
}

// changed returns a chase with something changed in it.
func changed(c api.Chase, change func(c *api.Chase)) api.Chase {
	c = copied(c)
	change(&c)
	return c
}

// equal returns whether chases are the same.
func equal(a, b api.Chase) bool {
	return a.Error == b.Error && a.Final == b.Final && slices.EqualFunc(a.Pairs, b.Pairs, slices.Equal[[]int])
}

// observed returns a chase of so many pairs that truly have times from one to another one, with the times. All watches are right.
func observed(r *rand.Rand, pairs, wrong int, from, to int) (api.Chase, []int) {
	c := of(wrong, 1+r.Intn(pairs))
	var times []int
	for range pairs {
		time := from + r.Intn(to-from+1)
		var told []int
		for range 1 + r.Intn(api.ChaseWatches) {
			told = append(told, watch(r, time, wrong))
		}
		if r.Intn(2) == 0 {
			// Often the time is known exactly, by two watches, unless it is too near to an end.
			told = list(min(api.ChaseTime, time+wrong), max(0, time-wrong))
		}
		c.Pairs, times = append(c.Pairs, told), append(times, time)
	}
	return c, times
}

// watch returns what a watch can tell that is wrong by so much at most.
func watch(r *rand.Rand, time, wrong int) int {
	return min(api.ChaseTime, max(0, time-wrong+r.Intn(2*wrong+1)))
}

// muddled returns a chase with watches that need not be right.
func muddled(r *rand.Rand, pairs, wrong, from, to int) api.Chase {
	c := of(wrong, 1+r.Intn(pairs))
	for range pairs {
		var told []int
		for range 1 + r.Intn(api.ChaseWatches) {
			told = append(told, from+r.Intn(to-from+1))
		}
		c.Pairs = append(c.Pairs, told)
	}
	return c
}

// must returns what takes a result that has no error.
func must[T any](result T, e api.Errno) func(t *testing.T) T {
	return func(t *testing.T) T {
		t.Helper()
		if e != api.OK {
			t.Fatal(e)
		}
		return result
	}
}

// outcome is a result with its error.
type outcome[T any] struct {
	result T
	e      api.Errno
}

// resultOf returns a result and its error as one thing.
func resultOf[T any](result T, e api.Errno) outcome[T] { return outcome[T]{result, e} }

// writtenOf returns a list, written out, and its error as one thing.
func writtenOf(list []int, e api.Errno) outcome[string] { return resultOf(fmt.Sprint(list), e) }

// told is all that is told of a chase: of pairs by their numbers, and of two of them by theirs.
type told struct {
	times, places [api.ChasePairs]outcome[api.Span]
	wrong, finals [api.ChasePairs]outcome[int]
	meets         [api.ChasePairs][api.ChasePairs]outcome[int]
	cut           outcome[api.Span]
	orders, ask   outcome[int]
	first         outcome[string]
}

// ask returns all that is told of a chase.
func ask(c api.Chase) told {
	a := told{
		cut: resultOf(chase.Cut(c)), orders: resultOf(chase.Orders(c)), ask: resultOf(chase.Ask(c)),
		first: writtenOf(chase.First(c)),
	}
	for pair := range c.Pairs {
		a.times[pair], a.places[pair] = resultOf(chase.Time(c, pair)), resultOf(chase.Place(c, pair))
		a.wrong[pair], a.finals[pair] = resultOf(chase.Wrong(c, pair)), resultOf(chase.Final(c, pair))
		for other := range c.Pairs {
			a.meets[pair][other] = resultOf(chase.Meet(c, pair, other))
		}
	}
	return a
}

// inside returns whether all of one span is in another one.
func inside(s, of api.Span) bool { return s.Lo >= of.Lo && s.Hi <= of.Hi }

// sure returns whether it is told no less surely whether something is so than it was.
func sure(now, was outcome[int]) bool { return was.result == api.ChasePerhaps || now == was }

package chase_test

import (
	"math"
	"slices"
	"testing"

	"lapworks/api"
	"lapworks/chase"
)

// odd returns numbers, many of which are out of every range.
func odd() []int {
	return list(math.MinInt, math.MinInt+1, -1, 0, 1, 2, 3, 4, 6, 7, 200, 201, 204, math.MaxInt-1, math.MaxInt)
}

// refusedWrong tests that it is refused with an error to say which watches must be wrong.
func refusedWrong(t *testing.T, c api.Chase, pair int, want api.Errno) {
	t.Helper()
	if n, e := chase.Wrong(c, pair); n != 0 || e != want {
		t.Errorf("Wrong %+v %v: %v %v", c, pair, n, e)
	}
}

// refusedPair tests that nothing is told of a pair but an error, other than which of its watches must be wrong.
func refusedPair(t *testing.T, c api.Chase, pair int, want api.Errno) {
	t.Helper()
	if s, e := chase.Time(c, pair); s != (api.Span{}) || e != want {
		t.Errorf("Time %+v %v: %v %v", c, pair, s, e)
	}
	if s, e := chase.Place(c, pair); s != (api.Span{}) || e != want {
		t.Errorf("Place %+v %v: %v %v", c, pair, s, e)
	}
	if n, e := chase.Final(c, pair); n != 0 || e != want {
		t.Errorf("Final %+v %v: %v %v", c, pair, n, e)
	}
}

// refusedMeet tests that it is refused with an error to say whether two pairs meet.
func refusedMeet(t *testing.T, c api.Chase, pair, other int, want api.Errno) {
	t.Helper()
	if n, e := chase.Meet(c, pair, other); n != 0 || e != want {
		t.Errorf("Meet %+v %v %v: %v %v", c, pair, other, n, e)
	}
}

// refusedAll tests that nothing is told of all pairs together but an error.
func refusedAll(t *testing.T, c api.Chase, want api.Errno) {
	t.Helper()
	if s, e := chase.Cut(c); s != (api.Span{}) || e != want {
		t.Errorf("Cut %+v: %v %v", c, s, e)
	}
	if n, e := chase.Orders(c); n != 0 || e != want {
		t.Errorf("Orders %+v: %v %v", c, n, e)
	}
	if o, e := chase.First(c); len(o) != 0 || e != want {
		t.Errorf("First %+v: %v %v", c, o, e)
	}
	if n, e := chase.Ask(c); n != 0 || e != want {
		t.Errorf("Ask %+v: %v %v", c, n, e)
	}
}

// without returns a chase without a truth: a pair more has two watches that cannot both be right.
func without(c api.Chase) api.Chase {
	return changed(c, func(c *api.Chase) { c.Pairs = append(c.Pairs, list(100, 107)) })
}

// bases returns valid chases, with truths and without.
func bases() []api.Chase {
	return list(exampleC(), exampleD(), exampleW(), without(exampleC()), without(exampleD()), of(0, 1, list(0)), of(3, 6, list(0), list(200), list(0, 3, 6), list(1), list(1), list(1)))
}

// notValid returns chases that are not valid.
func notValid() []api.Chase {
	all := list(api.Chase{}, of(0, 0), of(0, 1), even(1, 1, api.ChasePairs+1), even(1, 7, api.ChasePairs+1), even(1, 1, 1000))
	bad := func(c api.Chase, change func(c *api.Chase)) { all = append(all, changed(c, change)) }
	for _, c := range bases() {
		for _, n := range list(-1, api.ChaseError+1, math.MinInt, math.MaxInt) {
			bad(c, func(c *api.Chase) { c.Error = n })
		}
		for _, n := range list(-1, 0, len(c.Pairs)+1, math.MinInt, math.MaxInt) {
			bad(c, func(c *api.Chase) { c.Final = n })
		}
		bad(c, func(c *api.Chase) { c.Pairs = nil })
		for pair, told := range c.Pairs {
			for _, told := range [][]int{nil, {}, slices.Repeat(list(50), api.ChaseWatches+1), make([]int, 1000)} {
				bad(c, func(c *api.Chase) { c.Pairs[pair] = told })
			}
			for watch := range told {
				for _, n := range list(-1, api.ChaseTime+1, math.MinInt, math.MaxInt) {
					bad(c, func(c *api.Chase) { c.Pairs[pair][watch] = n })
				}
			}
		}
	}
	return all
}

// P7.1 to P7.7, R1, R2: whatever else is asked for, and whether there is a truth or not, a chase that is not valid comes first.
func TestNotValid(t *testing.T) {
	for _, c := range notValid() {
		refusedAll(t, c, api.ErrArg)
		for _, pair := range list(0, 1, -1, api.ChasePairs, math.MinInt, math.MaxInt) {
			refusedPair(t, c, pair, api.ErrArg)
			refusedWrong(t, c, pair, api.ErrArg)
			refusedMeet(t, c, pair, 0, api.ErrArg)
			refusedMeet(t, c, 0, pair, api.ErrArg)
		}
	}
}

// P7.1 to P7.4, P7.6, R1, R2: a pair that is none, and two that do not differ, come before that there is no truth.
func TestOutOfRange(t *testing.T) {
	for _, c := range bases() {
		pairs := len(c.Pairs)
		for _, n := range list(-1, pairs, pairs+1, api.ChasePairs, 64, math.MinInt, math.MaxInt) {
			if n < 0 || n >= pairs {
				refusedPair(t, c, n, api.ErrRange)
				refusedWrong(t, c, n, api.ErrRange)
				refusedMeet(t, c, n, 0, api.ErrRange)
				refusedMeet(t, c, 0, n, api.ErrRange)
				refusedMeet(t, c, n, n, api.ErrRange)
				refusedMeet(t, c, n, -1, api.ErrRange)
			}
		}
		for pair := range pairs {
			refusedMeet(t, c, pair, pair, api.ErrRange)
		}
	}
}

// P7.1, P7.3 to P7.7, R1, R2: without a truth nothing is told, whichever pair clashes; but for which watches must be wrong.
func TestClash(t *testing.T) {
	for _, c := range list(exampleW(), without(exampleC()), without(exampleD()), of(3, 1, list(100, 107), list(50)), of(0, 2, list(50), list(50, 51), list(50)), of(3, 4, list(1), list(1), list(1), list(0, 200, 0)), of(3, 1, list(0, 7))) {
		refusedAll(t, c, api.ErrClash)
		for pair := range c.Pairs {
			refusedPair(t, c, pair, api.ErrClash)
			for other := range c.Pairs {
				if other != pair {
					refusedMeet(t, c, pair, other, api.ErrClash)
				}
			}
			if _, e := chase.Wrong(c, pair); e != api.OK {
				t.Error(c, pair, e)
			}
		}
	}
}

// R7: the limits themselves are valid, and so is 0.
func TestLimits(t *testing.T) {
	for i, c := range list(
		of(0, 1, list(0)), of(0, 1, list(200)), of(3, 1, list(0, 0, 0)), of(3, 1, list(200, 200, 200)), of(3, 6, list(0, 1, 2), list(0, 1, 2), list(0, 1, 2), list(200, 199, 198), list(200), list(0)), of(0, 6, list(0), list(0), list(0), list(0), list(0), list(0)),
	) {
		if n, e := chase.Orders(c); n < 1 || e != api.OK {
			t.Error(i, n, e)
		}
		if n, e := chase.Final(c, len(c.Pairs)-1); n != api.ChaseAlways || e != api.OK {
			t.Error(i, n, e)
		}
	}
}

// P1 of the document: no argument leads to a panic.
func TestAnyArguments(t *testing.T) {
	for _, a := range odd() {
		for _, b := range odd() {
			for _, c := range list(of(a, b, list(1), list(2)), of(b, 1, list(a, b), list(a), list(b, a, b)), of(1, a, list(b), list(50), list(50, 51)), of(1, 1, list(50, a), list(50, b), nil), even(1, 2, 3)) {
				ask(c)
				chase.Time(c, a)
				chase.Wrong(c, a)
				chase.Place(c, b)
				chase.Final(c, b)
				chase.Meet(c, a, b)
			}
		}
	}
	ask(api.Chase{})
	chase.First(even(3, 1, 1<<16))
	chase.Wrong(of(1, 1, make([]int, 1<<16)), 0)
}

// R3: pairs, or watches, that are an empty list are as many as in none.
func TestNilAndEmpty(t *testing.T) {
	for _, c := range list(api.Chase{Error: 1, Final: 1, Pairs: [][]int{}}, api.Chase{Error: 1, Final: 1}, of(1, 1, nil), of(1, 1, []int{})) {
		refusedAll(t, c, api.ErrArg)
		refusedWrong(t, c, 0, api.ErrArg)
	}
}

// R4: a chase is as it was, also what is behind its lists in the same memory, and an order that is told is the caller's own.
func TestMemory(t *testing.T) {
	watches := list(50, 51, 7, 8, 9)
	pairs := list(watches[:2], list(52), list(53, 54), list(51), list(1, 100))
	c := of(1, 2, pairs[:4]...)
	before, was := ask(c), copied(of(1, 2, pairs...))
	if before != ask(exampleC()) {
		t.Error(before)
	}
	if !equal(of(1, 2, pairs...), was) || !slices.Equal(watches, list(50, 51, 7, 8, 9)) {
		t.Error(pairs, watches)
	}
	first, other := must(chase.First(c))(t), must(chase.First(c))(t)
	first = first[:cap(first)]
	for i := range first {
		first[i] = 9
	}
	if !slices.Equal(other, list(0, 1, 3, 2)) || ask(c) != before {
		t.Error("shared", other)
	}
}

package chase_test

import (
	"fmt"
	"math/bits"
	"math/rand"
	"slices"
	"testing"

	"lapworks/api"
	"lapworks/chase"
)

// random returns a chase of any number of pairs, with a truth and the times of this one. No time is near to the least or the greatest one.
func random(r *rand.Rand) (api.Chase, []int) {
	return observed(r, 1+r.Intn(api.ChasePairs), r.Intn(api.ChaseError+1), 50, 52+r.Intn(12))
}

// P7.8, P2 of the document: what is true is within what is told, whatever it is.
func TestTruthIsWithin(t *testing.T) {
	r := rand.New(rand.NewSource(211))
	for range 500 {
		c, times := random(r)
		a := ask(c)
		order := orderOf(times)
		for place, pair := range order {
			if !inside(span(times[pair], times[pair]), a.times[pair].result) || !inside(span(place, place), a.places[pair].result) {
				t.Error(c, times, pair, a.times[pair], a.places[pair])
			}
			if n := a.finals[pair].result; n == api.ChaseAlways && place >= c.Final || n == api.ChaseNever && place < c.Final {
				t.Error(c, times, pair, n)
			}
			for behind, other := range order {
				if n := a.meets[pair][other].result; pair != other && (n == api.ChaseAlways && place+behind != len(order)-1 || n == api.ChaseNever && place+behind == len(order)-1) {
					t.Error(c, times, pair, other, n)
				}
			}
			if a.wrong[pair] != (outcome[int]{}) {
				t.Error("no watch is wrong", c, times, a.wrong[pair])
			}
		}
		cut := times[order[c.Final-1]]
		if !inside(span(cut, cut), a.cut.result) || slices.Compare(must(chase.First(c))(t), order) > 0 || a.orders.result < 1 {
			t.Error(c, times, a.cut, a.first, a.orders)
		}
	}
}

// exact returns the chase in which each pair has just one time.
func exact(final int, times []int) api.Chase {
	c := of(0, final)
	for _, time := range times {
		c.Pairs = append(c.Pairs, list(time))
	}
	return c
}

// P7.8: if all is known exactly there is one order, as many come into the final as are wanted, and each pair meets the one that is as far from the other end.
func TestExact(t *testing.T) {
	r := rand.New(rand.NewSource(212))
	for range 200 {
		var times []int
		for range 1 + r.Intn(api.ChasePairs) {
			times = append(times, 60+r.Intn(5))
		}
		c := exact(1+r.Intn(len(times)), times)
		a, order := ask(c), orderOf(times)
		if a.orders.result != 1 || a.first.result != fmt.Sprint(order) || a.ask.e != api.ErrRefuse || a.cut.result.Lo != times[order[c.Final-1]] || a.cut.result.Lo != a.cut.result.Hi {
			t.Errorf("%+v: %+v", c, a)
		}
		for place, pair := range order {
			want := api.ChaseNever
			if place < c.Final {
				want = api.ChaseAlways
			}
			if a.finals[pair].result != want || a.places[pair].result != span(place, place) {
				t.Errorf("%+v: %+v", c, a)
			}
			if other := order[len(order)-1-place]; other != pair && a.meets[pair][other].result != api.ChaseAlways {
				t.Errorf("%+v: %+v", c, a)
			}
		}
	}
}

// P7.8: no more pairs are told to come into the final for sure than are wanted, and no more not to than are not; both are as many just if nobody is in doubt.
func TestAsManyAsAreWanted(t *testing.T) {
	r := rand.New(rand.NewSource(213))
	for range 500 {
		c, _ := random(r)
		a := ask(c)
		many := map[int]int{}
		for pair := range c.Pairs {
			many[a.finals[pair].result]++
		}
		in, out := many[api.ChaseAlways], many[api.ChaseNever]
		if in > c.Final || out > len(c.Pairs)-c.Final || (in == c.Final) != (a.ask.e == api.ErrRefuse) || (out == len(c.Pairs)-c.Final) != (in == c.Final) {
			t.Errorf("%+v: %v %+v", c, many, a)
		}
	}
}

// P7.8: both ends of each span are those of a truth: of one in which all pairs are as fast, or as slow, as they can be, but for the one whose place it is.
func TestEnds(t *testing.T) {
	r := rand.New(rand.NewSource(214))
	for range 200 {
		c, _ := random(r)
		fast, slow := c, c
		fast.Pairs, slow.Pairs = nil, nil
		for pair := range c.Pairs {
			s := must(chase.Time(c, pair))(t)
			fast.Pairs, slow.Pairs = append(fast.Pairs, list(s.Lo)), append(slow.Pairs, list(s.Hi))
		}
		fast.Error, slow.Error = 0, 0
		cut := must(chase.Cut(c))(t)
		if least, most := must(chase.Cut(fast))(t), must(chase.Cut(slow))(t); least != span(cut.Lo, cut.Lo) || most != span(cut.Hi, cut.Hi) {
			t.Error(c, cut, least, most)
		}
		for pair := range c.Pairs {
			first := changed(slow, func(c *api.Chase) { c.Pairs[pair] = fast.Pairs[pair] })
			last := changed(fast, func(c *api.Chase) { c.Pairs[pair] = slow.Pairs[pair] })
			s := must(chase.Place(c, pair))(t)
			if least, most := must(chase.Place(first, pair))(t), must(chase.Place(last, pair))(t); least != span(s.Lo, s.Lo) || most != span(s.Hi, s.Hi) {
				t.Error(c, pair, s, least, most)
			}
		}
	}
}

// noLess tests that nothing is told less exactly of a chase than of another one of the same pairs.
func noLess(t *testing.T, c api.Chase, now, was told) {
	t.Helper()
	well := inside(now.cut.result, was.cut.result) && now.orders.result <= was.orders.result
	for pair := range c.Pairs {
		well = well && inside(now.times[pair].result, was.times[pair].result) && inside(now.places[pair].result, was.places[pair].result) && sure(now.finals[pair], was.finals[pair])
		for other := range c.Pairs {
			well = well && sure(now.meets[pair][other], was.meets[pair][other])
		}
	}
	switch was.ask.e {
	case api.OK:
		well = well && (now.ask == was.ask || now.ask.e == api.ErrRefuse)
	case api.ErrRefuse:
		well = well && now.ask.e == api.ErrRefuse
	}
	if !well {
		t.Errorf("%+v: %+v, before %+v", c, now, was)
	}
}

// P7.9, P2 of the document: with a watch more nothing is told less exactly, unless there is no truth then; and no fewer must be wrong.
func TestWatchMore(t *testing.T) {
	r := rand.New(rand.NewSource(215))
	clashes, more := 0, 0
	for range 800 {
		c, times := random(r)
		pair := r.Intn(len(c.Pairs))
		if len(c.Pairs[pair]) == api.ChaseWatches {
			continue
		}
		other := changed(c, func(c *api.Chase) {
			c.Pairs[pair] = append(c.Pairs[pair], watch(r, times[pair], c.Error+r.Intn(3)))
		})
		was, now := ask(c), ask(other)
		if bits.OnesCount(uint(now.wrong[pair].result)) < bits.OnesCount(uint(was.wrong[pair].result)) {
			t.Error(c, other, now.wrong, was.wrong)
		}
		if now.orders.e == api.ErrClash {
			clashes++
			continue
		}
		noLess(t, other, now, was)
		if now.times != was.times {
			more++
		}
	}
	if clashes < 30 || more < 60 {
		t.Error("too few of a kind for a test", clashes, more)
	}
}

// P7.9: no fewer watches must be wrong with a watch more, also where some must be wrong already.
func TestWrongMore(t *testing.T) {
	r := rand.New(rand.NewSource(216))
	for range 300 {
		c := muddled(r, 2, r.Intn(api.ChaseError+1), 50, 60)
		if len(c.Pairs[0]) == api.ChaseWatches {
			continue
		}
		other := changed(c, func(c *api.Chase) { c.Pairs[0] = append(c.Pairs[0], 50+r.Intn(11)) })
		was, now := must(chase.Wrong(c, 0))(t), must(chase.Wrong(other, 0))(t)
		if bits.OnesCount(uint(now)) < bits.OnesCount(uint(was)) {
			t.Error(c, other, was, now)
		}
	}
}

// P7.9: with a smaller error nothing is told less exactly, unless there is no truth then.
func TestSmallerError(t *testing.T) {
	r := rand.New(rand.NewSource(217))
	clashes, fewer := 0, 0
	for range 800 {
		c, _ := random(r)
		// Where the error is greater than any watch needs, there are truths with a smaller one.
		if c.Error = min(api.ChaseError, c.Error+r.Intn(2)); c.Error == 0 {
			continue
		}
		other := changed(c, func(c *api.Chase) { c.Error-- })
		was, now := ask(c), ask(other)
		if now.orders.e == api.ErrClash {
			clashes++
			continue
		}
		noLess(t, other, now, was)
		if now.orders.result < was.orders.result {
			fewer++
		}
	}
	if clashes < 30 || fewer < 30 {
		t.Error("too few of a kind for a test", clashes, fewer)
	}
}

// P7.9: a pair that is surely faster than another one does not come into the final less surely.
func TestFaster(t *testing.T) {
	r := rand.New(rand.NewSource(218))
	found := 0
	for range 300 {
		c, _ := random(r)
		a := ask(c)
		for pair := range c.Pairs {
			for other := range c.Pairs {
				if a.times[pair].result.Hi < a.times[other].result.Lo {
					found++
					if a.finals[pair].result < a.finals[other].result {
						t.Errorf("%+v: %v %v %+v", c, pair, other, a)
					}
				}
			}
		}
	}
	if found < 100 {
		t.Error("too few are faster for a test", found)
	}
}

// later returns spans that begin, and end, so much later, as they are of so many pairs.
func later(spans [api.ChasePairs]outcome[api.Span], pairs, by int) [api.ChasePairs]outcome[api.Span] {
	for pair := range pairs {
		spans[pair].result = span(spans[pair].result.Lo+by, spans[pair].result.Hi+by)
	}
	return spans
}

// P7.9: if all times are more by as much only times and the cut change, by this.
func TestLater(t *testing.T) {
	r := rand.New(rand.NewSource(219))
	for range 300 {
		c, _ := random(r)
		by := r.Intn(100)
		a, b := ask(c), ask(changed(c, func(c *api.Chase) {
			for _, told := range c.Pairs {
				for watch := range told {
					told[watch] += by
				}
			}
		}))
		a.times = later(a.times, len(c.Pairs), by)
		a.cut.result = span(a.cut.result.Lo+by, a.cut.result.Hi+by)
		if a != b {
			t.Errorf("%+v %v: %+v %+v", c, by, a, b)
		}
	}
}

// P7.9, P11 of the document: the order of watches makes no difference but to their numbers, by which of several sets the least one is told.
func TestOrderOfWatches(t *testing.T) {
	r := rand.New(rand.NewSource(220))
	clashes := 0
	for i := range 600 {
		c, _ := random(r)
		if i%2 == 0 {
			c = muddled(r, 1+r.Intn(3), r.Intn(api.ChaseError+1), 50, 58)
		}
		other := changed(c, func(c *api.Chase) {
			for _, told := range c.Pairs {
				r.Shuffle(len(told), func(i, j int) { told[i], told[j] = told[j], told[i] })
			}
		})
		a, b := ask(c), ask(other)
		for pair := range c.Pairs {
			if bits.OnesCount(uint(a.wrong[pair].result)) != bits.OnesCount(uint(b.wrong[pair].result)) {
				t.Error("Wrong", c, other, a.wrong, b.wrong)
			}
		}
		b.wrong = a.wrong
		if a != b {
			t.Errorf("%+v: %+v %+v", c, a, b)
		}
		if a.orders.e == api.ErrClash {
			clashes++
		}
	}
	if clashes < 50 || clashes > 400 {
		t.Error("too few of a kind for a test", clashes)
	}
}

// P7.7: the final is settled once the time is known that is asked for, whichever it is; and not by the time of another pair.
func TestAskedTimeSettles(t *testing.T) {
	r := rand.New(rand.NewSource(221))
	found := 0
	for range 500 {
		c, _ := random(r)
		a := ask(c)
		for pair := range c.Pairs {
			settles := true
			for time := a.times[pair].result.Lo; time <= a.times[pair].result.Hi; time++ {
				settles = settles && ask(knownTime(c, pair, time)).ask.e == api.ErrRefuse
			}
			if asked := a.ask == (outcome[int]{pair, api.OK}); asked {
				found++
				if !settles {
					t.Errorf("%+v: %+v", c, a.ask)
				}
			} else if settles && a.ask.e != api.ErrRefuse && (a.ask.e != api.OK || pair < a.ask.result) {
				t.Errorf("%+v: %+v %v", c, a.ask, pair)
			}
		}
	}
	if found < 20 {
		t.Error("too few times settle the final for a test", found)
	}
}

// knownTime returns a chase in which just one time of a pair can be, by watches that are wrong by as much as they can be.
func knownTime(c api.Chase, pair, time int) api.Chase {
	return changed(c, func(c *api.Chase) { c.Pairs[pair] = list(time-c.Error, time+c.Error) })
}

// P11 of the document: the same chase is told the same, however often it is asked.
func TestAskedAgain(t *testing.T) {
	r := rand.New(rand.NewSource(222))
	for range 60 {
		c, _ := random(r)
		a := ask(c)
		for range 3 {
			if b := ask(copied(c)); a != b {
				t.Errorf("%+v: %+v %+v", c, a, b)
			}
		}
	}
}

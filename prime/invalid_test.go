package prime_test

import (
	"math"
	"slices"
	"testing"

	"lapworks/api"
	"lapworks/prime"
)

// odd returns numbers, many of which are out of every range.
func odd() []int {
	return list(math.MinInt, -1, 0, 1, 2, 3, 6, 7, 64, 500, 501, math.MaxInt)
}

// refusedPair tests that nothing is told of a pair but an error.
func refusedPair(t *testing.T, p api.Primes, pair int, want api.Errno) {
	t.Helper()
	if s, e := prime.Due(p, pair); s != (api.Span{}) || e != want {
		t.Errorf("Due %+v %v: %v %v", p, pair, s, e)
	}
	if sprint, most, e := prime.Look(p, pair); sprint != 0 || most != 0 || e != want {
		t.Errorf("Look %+v %v: %v %v %v", p, pair, sprint, most, e)
	}
}

// refusedPrime tests that nothing is told of a prime but an error.
func refusedPrime(t *testing.T, p api.Primes, number int, want api.Errno) {
	t.Helper()
	if s, e := prime.Pays(p, number); s != (api.Span{}) || e != want {
		t.Errorf("Pays %+v %v: %v %v", p, number, s, e)
	}
	if can, surely, e := prime.Who(p, number); can != 0 || surely != 0 || e != want {
		t.Errorf("Who %+v %v: %v %v %v", p, number, can, surely, e)
	}
}

// refusedBack tests that it is not told what goes back.
func refusedBack(t *testing.T, p api.Primes, want api.Errno) {
	t.Helper()
	if s, e := prime.Back(p); s != (api.Span{}) || e != want {
		t.Errorf("Back %+v: %v %v", p, s, e)
	}
}

// refusedExact tests that it is not told what is due by orders.
func refusedExact(t *testing.T, p api.Primes, orders [][]int, want api.Errno) {
	t.Helper()
	if due, back, e := prime.Exact(p, orders); len(due) != 0 || back != 0 || e != want {
		t.Errorf("Exact %+v %v: %v %v %v", p, orders, due, back, e)
	}
}

// full returns primes with as much of all as there can be.
func full() api.Primes {
	s := seen(slices.Repeat(list([2]int{0, 5}), api.SprintAhead), slices.Repeat(list(placed(5, 0, 5)), api.SprintPlaces)...)
	p := of(api.SprintPairs, slices.Repeat(list(s), api.SprintList))
	p.Sprints.Points = slices.Repeat(list(api.SprintPoints), api.SprintPairs)
	for i := range api.PrimeList {
		p.List = append(p.List, byPair(i/2, 5, 0, api.PrimeCoins))
	}
	return p
}

// noTruth returns primes of at least two pairs and one sprint, the last sprint of which cannot have ended in any order.
func noTruth(p api.Primes) api.Primes {
	return changed(p, func(p *api.Primes) { p.Sprints.List[len(p.Sprints.List)-1] = cycle() })
}

// bases returns valid primes of at least two pairs and one sprint, with truths and without.
func bases() []api.Primes {
	two := of(2, free(2), onPlace(0, 1, 0), shared(1, 1, 500), byPair(1, 1, 0, 1))
	return list(exampleP(), two, of(3, free(1)), full(), noTruth(exampleP()), noTruth(two), noTruth(of(3, free(1))), noTruth(full()))
}

// badSprints returns primes of which the sprints alone are not valid.
func badSprints(p api.Primes) []api.Primes {
	var all []api.Primes
	bad := func(change func(s *api.Sprints)) {
		all = append(all, changed(p, func(p *api.Primes) { change(&p.Sprints) }))
	}
	for _, pairs := range list(0, -1, api.SprintPairs+1, 1000, math.MinInt, math.MaxInt) {
		bad(func(s *api.Sprints) { s.Pairs = pairs })
	}
	for _, points := range list(list(-1), list(api.SprintPoints+1), list(1, 2), make([]int, api.SprintPairs+1), list(math.MaxInt), list(math.MinInt)) {
		bad(func(s *api.Sprints) { s.Points = points })
	}
	bad(func(s *api.Sprints) { s.List = append(s.List, make([]api.Sprint, api.SprintList)...) })
	pairs := p.Sprints.Pairs
	for _, one := range list(
		seen(list([2]int{1, 1})), seen(list([2]int{0, pairs})), seen(list([2]int{-1, 0})), seen(slices.Repeat(list([2]int{0, 1}), api.SprintAhead+1)),
		seen(nil, placed(pairs, 0, 0)), seen(nil, placed(-1, 0, 0)), seen(nil, placed(0, 1, 0)), seen(nil, placed(0, 0, pairs)), seen(nil, placed(0, -1, 0)), seen(nil, slices.Repeat(list(placed(0, 0, 1)), api.SprintPlaces+1)...),
	) {
		bad(func(s *api.Sprints) { s.List[len(s.List)-1] = one })
	}
	return all
}

// badLists returns primes of which the list alone is not valid.
func badLists(p api.Primes) []api.Primes {
	pairs, last := p.Sprints.Pairs, len(p.Sprints.List)-1
	var wrong []api.Prime
	for _, n := range list(-1, math.MinInt, math.MaxInt) {
		wrong = append(wrong, onPlace(n, 0, 1), onPlace(last, n, 1), shared(last, n, 1), byPair(last, 0, n, 1), onPlace(last, 0, n), shared(last, 0, n), byPair(last, 0, 0, n), byPair(last, n, 0, 1),
			api.Prime{Sprint: last, Kind: n})
	}
	wrong = append(wrong, onPlace(last+1, 0, 1), onPlace(last, pairs, 1), shared(last, pairs, 1), byPair(last, 0, pairs, 1), byPair(last, pairs, 0, 1),
		onPlace(last, 0, api.PrimeCoins+1), shared(last, 0, api.PrimeCoins+1), byPair(last, 0, 0, api.PrimeCoins+1), api.Prime{Sprint: last, Kind: api.PrimeShare + 1})
	var all []api.Primes
	for _, x := range wrong {
		all = append(all, changed(p, func(p *api.Primes) { p.List = append(p.List[:min(len(p.List), api.PrimeList-1)], x) }),
			changed(p, func(p *api.Primes) { p.List = list(x, onPlace(last, 0, 1)) }))
	}
	if last > 0 {
		// A prime of an earlier sprint than the one before it.
		all = append(all, changed(p, func(p *api.Primes) { p.List = list(onPlace(last, 0, 1), onPlace(last-1, 0, 1)) }),
			changed(p, func(p *api.Primes) { p.List = list(onPlace(0, 0, 1), onPlace(last, 0, 1), onPlace(0, 0, 1)) }))
	}
	return append(all, changed(p, func(p *api.Primes) { p.List = slices.Repeat(list(onPlace(last, 0, 1)), api.PrimeList+1) }),
		changed(p, func(p *api.Primes) { p.List = make([]api.Prime, 1<<12) }))
}

// notValid returns primes that are not valid.
func notValid() []api.Primes {
	// Without sprints no prime is of one.
	all := list(api.Primes{}, of(0, nil), of(7, nil), of(2, nil, onPlace(0, 0, 0)), of(1, nil, api.Prime{}), api.Primes{List: list(api.Prime{})})
	for _, p := range bases() {
		all = append(append(all, badSprints(p)...), badLists(p)...)
	}
	// Of fewer pairs what was seen, or what primes are given for, is not valid.
	return append(all, changed(exampleP(), func(p *api.Primes) { p.Sprints.Pairs = 3 }), of(1, free(1), onPlace(0, 1, 1)), of(1, free(1), byPair(0, 1, 0, 1)))
}

// P9.1 to P9.5, R1, R2, R8: whatever else is asked for, and whether there is a truth or not, primes that are not valid come first.
func TestNotValid(t *testing.T) {
	for _, p := range notValid() {
		refusedBack(t, p, api.ErrArg)
		for _, n := range list(0, 1, -1, api.SprintPairs, math.MinInt, math.MaxInt) {
			refusedPair(t, p, n, api.ErrArg)
			refusedPrime(t, p, n, api.ErrArg)
		}
		refusedExact(t, p, nil, api.ErrArg)
		refusedExact(t, p, list(list(0, 1), list(1, 0)), api.ErrArg)
		refusedExact(t, p, slices.Repeat(list(list(0, 0, 9)), len(p.Sprints.List)), api.ErrArg)
	}
}

// P9.1 to P9.3, P9.5, R1, R2: pairs and primes that are none come before that there is no truth, or no sprint.
func TestOutOfRange(t *testing.T) {
	for _, p := range append(bases(), of(1, nil), of(6, nil)) {
		for _, n := range list(-1, p.Sprints.Pairs, p.Sprints.Pairs+1, 64, math.MinInt, math.MaxInt) {
			refusedPair(t, p, n, api.ErrRange)
		}
		for _, n := range list(-1, len(p.List), len(p.List)+1, 64, math.MinInt, math.MaxInt) {
			refusedPrime(t, p, n, api.ErrRange)
		}
	}
}

// P9.4, R1, R2: orders have to be as many as sprints, each a list of all pairs, each once, also if a sprint has no primes.
func TestNoOrders(t *testing.T) {
	for _, p := range append(bases(), of(1, nil), of(1, free(1)), of(6, free(4))) {
		var all []int
		for pair := range p.Sprints.Pairs {
			all = append(all, pair)
		}
		right := slices.Repeat(list(all), len(p.Sprints.List))
		if _, _, e := prime.Exact(p, right); e != api.OK {
			t.Error(p, right, e)
		}
		refusedExact(t, p, append(slices.Clone(right), all), api.ErrRange)
		refusedExact(t, p, append(slices.Clone(right), nil), api.ErrRange)
		for i := range right {
			refusedExact(t, p, slices.Delete(slices.Clone(right), i, i+1), api.ErrRange)
			for _, wrong := range badOrders(all) {
				orders := slices.Clone(right)
				orders[i] = wrong
				refusedExact(t, p, orders, api.ErrRange)
			}
		}
	}
}

// badOrders returns lists that are not of all pairs, each once, by one that is.
func badOrders(all []int) [][]int {
	wrong := list(nil, []int{}, all[1:], all[:len(all)-1], append(slices.Clone(all), 0), append(slices.Clone(all), len(all)), append(slices.Clone(all), all...))
	for _, n := range list(-1, len(all), 64, 63, -64, math.MinInt, math.MaxInt) {
		for i := range all {
			order := slices.Clone(all)
			order[i] = n
			wrong = append(wrong, order)
		}
	}
	if len(all) > 1 {
		twice := slices.Clone(all)
		twice[0] = twice[1]
		wrong = append(wrong, twice)
	}
	return wrong
}

// P9.1 to P9.3, P9.5, R1, R2: if any sprint has no order nothing is told, also if it has no primes; but what is due by orders is.
func TestClash(t *testing.T) {
	for _, p := range list(noTruth(exampleP()), noTruth(full()), noTruth(of(2, free(1))), noTruth(of(3, free(4), onPlace(0, 0, 1))),
		of(2, list(cycle(), api.Sprint{}), onPlace(1, 0, 5)), of(2, list(seen(nil, placed(0, 0, 0), placed(1, 0, 0)))), of(1, list(seen(nil, placed(0, 0, 0))))) {
		want := api.ErrClash
		if p.Sprints.Pairs == 1 {
			want = api.OK
		}
		if a := ask(p); want != api.OK && a != refused(p, want) {
			t.Errorf("%+v %+v", p, a)
		}
		if s, e := prime.Back(p); e != want {
			t.Error(p, s, e)
		}
	}
	orders := list(list(2, 0, 1, 3), list(3, 1, 2, 0))
	if b := billOf(prime.Exact(noTruth(exampleP()), orders)); b != so("[0 3 15 3] 1") {
		t.Error(b)
	}
	refusedExact(t, noTruth(exampleP()), orders[:1], api.ErrRange)
}

// P9.5, R1: without sprints there is none to look at, but the rest is told.
func TestNoSprints(t *testing.T) {
	for pairs := range api.SprintPairs {
		p := of(pairs+1, nil)
		for pair := range pairs + 1 {
			if l := bothOf(prime.Look(p, pair)); l != (outcome[[2]int]{e: api.ErrNone}) {
				t.Error(pairs, pair, l)
			}
			if s := resultOf(prime.Due(p, pair)); s != so(span(0, 0)) {
				t.Error(pairs, pair, s)
			}
		}
		if s := resultOf(prime.Back(p)); s != so(span(0, 0)) {
			t.Error(pairs, s)
		}
		refusedPrime(t, p, 0, api.ErrRange)
	}
}

// P9.1 to P9.5, R7: the limits themselves are valid.
func TestLimits(t *testing.T) {
	// The pair 5 is never first, so that all coins are left.
	a := ask(full())
	if a.back != so(span(4000, 4000)) || a.due[5] != so(span(0, 0)) || a.pays[7] != so(span(0, 0)) || a.look[5] != so([2]int{0, 0}) {
		t.Errorf("%+v", a)
	}
	last := changed(full(), func(p *api.Primes) { p.List[7] = shared(3, 5, api.PrimeCoins) })
	a = ask(last)
	if a.back != so(span(4, 4)) || a.due[0] != so(span(666, 666)) || a.pays[7] != so(span(3996, 3996)) || a.who[7] != so([2]int{63, 63}) {
		t.Errorf("%+v", a)
	}
	if b := billOf(prime.Exact(last, slices.Repeat(list(list(5, 4, 3, 2, 1, 0)), 4))); b != so("[83 83 83 83 83 3583] 2") {
		t.Error(b)
	}
	all := of(api.SprintPairs, free(api.SprintList))
	for i := range api.PrimeList {
		all.List = append(all.List, onPlace(i/2, i%6, api.PrimeCoins))
	}
	if a := ask(all); a.due[3] != so(span(0, 2000)) || a.back != so(span(0, 0)) || a.look[3] != so([2]int{0, 1500}) {
		t.Errorf("%+v", a)
	}
}

// R8: of a kind that uses no pair it is not looked at, whatever it is.
func TestPairNotUsed(t *testing.T) {
	for _, n := range odd() {
		p := changed(exampleP(), func(p *api.Primes) { p.List[1].Pair, p.List[2].Pair = n, n })
		if ask(p) != ask(exampleP()) {
			t.Error(n)
		}
	}
}

// P1 of the document: no argument leads to a panic.
func TestAnyArguments(t *testing.T) {
	for _, m := range odd() {
		for _, n := range odd() {
			for _, p := range list(
				of(m, free(1), api.Prime{Sprint: n}), of(2, free(2), api.Prime{Sprint: m, Kind: n, Coins: m, Place: n, Pair: m}), of(3, free(1), shared(0, m, n)), of(3, free(1), byPair(0, m, n, 1)), of(3, free(1), onPlace(m, n, 1)),
				of(2, list(seen(list([2]int{m, n}), placed(m, n, n))), onPlace(0, 0, 1)), of(m, nil), exampleP(),
			) {
				ask(p)
				prime.Due(p, m)
				prime.Pays(p, m)
				prime.Who(p, n)
				prime.Look(p, n)
				prime.Exact(p, list(list(m, n), list(n)))
				prime.Exact(p, list(list(m, n)))
				prime.Exact(p, slices.Repeat(list(list(0, m, n)), len(p.Sprints.List)))
			}
		}
	}
	ask(of(6, make([]api.Sprint, 1<<16), make([]api.Prime, 1<<16)...))
	prime.Exact(exampleP(), make([][]int, 1<<16))
	prime.Exact(exampleP(), list(make([]int, 1<<16), nil))
}

// R3: lists that are empty are as none.
func TestNilAndEmpty(t *testing.T) {
	none := api.Primes{Sprints: api.Sprints{Pairs: 3, List: free(2)}}
	empty := api.Primes{Sprints: api.Sprints{Pairs: 3, Points: []int{}, List: list(api.Sprint{Ahead: [][2]int{}, Places: []api.SprintPlace{}}, api.Sprint{})}, List: []api.Prime{}}
	if a, b := ask(none), ask(empty); a != b || a.back != so(span(0, 0)) || a.look[0] != so([2]int{0, 0}) {
		t.Errorf("%+v %+v", a, b)
	}
	if a, b := billOf(prime.Exact(of(2, nil), nil)), billOf(prime.Exact(of(2, []api.Sprint{}), [][]int{})); a != b || a != so("[0 0] 0") {
		t.Error(a, b)
	}
}

// R4: primes and orders are as they were, also what is behind their lists in the same memory, and what is told is the caller's own.
func TestMemory(t *testing.T) {
	ahead, places := list([2]int{0, 1}, [2]int{9, 9}), list(placed(0, 0, 1), placed(9, 9, 9))
	sprints := list(seen(ahead[:1], places[:1]...), api.Sprint{}, cycle())
	primes := list(byPair(0, 1, 0, 5), shared(1, 1, 4), onPlace(9, 9, 9))
	p := of(3, sprints[:2], primes[:2]...)
	order := list(2, 0, 1, 9)
	orders := list(order[:3], order[:3], list(9))
	was, before := copied(p), ask(p)
	due, _ := exactly(t, p, orders[:2])
	if !equal(p, was) || ahead[1] != [2]int{9, 9} || places[1] != placed(9, 9, 9) || len(sprints[2].Ahead) != 2 || primes[2] != onPlace(9, 9, 9) || !slices.Equal(order, list(2, 0, 1, 9)) || !slices.Equal(orders[2], list(9)) {
		t.Error(p, ahead, places, sprints, primes, order, orders)
	}
	again, _ := exactly(t, p, orders[:2])
	other := due[:cap(due)]
	for i := range other {
		other[i] = 99
	}
	third, _ := exactly(t, p, orders[:2])
	if !slices.Equal(again, list(4, 0, 4)) || !slices.Equal(third, again) || ask(p) != before || !equal(p, was) || !slices.Equal(order, list(2, 0, 1, 9)) {
		t.Error("shared", again, third, order)
	}
}

package purse_test

import (
	"fmt"
	"math"
	"slices"
	"testing"

	"lapworks/api"
	"lapworks/purse"
)

// odd returns numbers, many of which are out of every range.
func odd() []int {
	return list(math.MinInt, math.MinInt+1, -64, -1, 0, 1, 2, 3, 4, 7, 8, 15, 16, 63, 64, math.MaxInt)
}

// noLists returns lists that are none of all of so many pairs, each once.
func noLists(pairs int) [][]int {
	all := list(list(-1), list(pairs), list(math.MinInt), list(math.MaxInt), make([]int, 1<<10))
	for _, order := range perms(pairs)[:1] {
		all = append(all, order[1:], append(slices.Clone(order), 0), append(slices.Clone(order), pairs), append(slices.Clone(order[1:]), pairs), append(slices.Clone(order[1:]), -1))
		if pairs > 1 {
			all = append(all, nil, append(slices.Clone(order[1:]), order[1]))
		}
	}
	return all
}

// refusedPair tests that nothing is told of a pair but an error.
func refusedPair(t *testing.T, p api.Purse, pair int, want api.Errno) {
	t.Helper()
	if s, e := purse.Places(p, pair); s != (api.Span{}) || e != want {
		t.Errorf("Places %+v %v: %v %v", p, pair, s, e)
	}
	if s, e := purse.Due(p, pair); s != (api.Span{}) || e != want {
		t.Errorf("Due %+v %v: %v %v", p, pair, s, e)
	}
	refusedAsk(t, p, pair, want)
}

func refusedAsk(t *testing.T, p api.Purse, pair int, want api.Errno) {
	t.Helper()
	if other, most, e := purse.Ask(p, pair); other != 0 || most != 0 || e != want {
		t.Errorf("Ask %+v %v: %v %v %v", p, pair, other, most, e)
	}
}

func refusedGroup(t *testing.T, p api.Purse, pairs int, want api.Errno) {
	t.Helper()
	if s, e := purse.Group(p, pairs); s != (api.Span{}) || e != want {
		t.Errorf("Group %+v %v: %v %v", p, pairs, s, e)
	}
}

func refusedOrder(t *testing.T, p api.Purse, order []int, want api.Errno) {
	t.Helper()
	if coins, e := purse.Exact(p, order); len(coins) != 0 || e != want {
		t.Errorf("Exact %+v %v: %v %v", p, order, coins, e)
	}
}

// refusedAll tests that nothing is told but an error, if what is asked for is in its range.
func refusedAll(t *testing.T, p api.Purse, want api.Errno) {
	t.Helper()
	refusedPair(t, p, 0, want)
	refusedGroup(t, p, 1, want)
	refusedOrder(t, p, perms(min(p.Board.Count.Pairs, api.CountPairs))[0], want)
	if coins, held, e := purse.Advance(p); len(coins) != 0 || held != 0 || e != want {
		t.Errorf("Advance %+v: %v %v %v", p, coins, held, e)
	}
}

// refused tests that nothing is told but an error, whatever is asked for.
func refused(t *testing.T, p api.Purse, want api.Errno) {
	t.Helper()
	refusedAll(t, p, want)
	for _, n := range odd() {
		refusedPair(t, p, n, want)
		refusedGroup(t, p, n, want)
	}
	for _, order := range append(noLists(3), perms(3)...) {
		refusedOrder(t, p, order, want)
	}
}

// full returns a purse with as much of all as there can be, and empty one with as little.
func full() api.Purse {
	return of(drawn(4), slices.Repeat(list(api.PurseCoins), api.PursePlaces), api.PurseCoins, slices.Repeat(list(api.PurseHours), 4)...)
}

func empty() api.Purse { return of(drawn(1), nil, 0, 0) }

// noRace returns a purse of at least two pairs with sheets that no race fits.
func noRace(p api.Purse) api.Purse {
	return changed(p, func(p *api.Purse) { p.Board.Count.Sheets = list([]int{0, 1}, []int{1, 0}, []int{0, 1, 0, 1}) })
}

// noOrder returns a purse of at least two pairs with a sprint that can have ended in no order.
func noOrder(p api.Purse) api.Purse { return seen(seen(p, 0, 1), 1, 0) }

// bases returns valid purses with a truth.
func bases() []api.Purse {
	return list(exampleP(), full(), empty(), of(drawn(3), list(1, 1, 0, 0), 7, 0, 0, 1))
}

// clashes returns valid purses without a truth.
func clashes() []api.Purse {
	return list(noRace(exampleP()), noOrder(exampleP()), noRace(full()), noOrder(full()), noOrder(noRace(exampleP())))
}

// notValid returns purses that are not valid.
func notValid() []api.Purse {
	var all []api.Purse
	for _, p := range append(bases(), clashes()...) {
		bad := func(change func(p *api.Purse)) { all = append(all, changed(p, change)) }
		for _, prizes := range list(list(-1), list(api.PurseCoins+1), list(1, 2), list(0, 1), list(3, 3, 2, 3), list(3, 2, -1), list(5, 4, math.MinInt), list(math.MaxInt, 0), make([]int, api.PursePlaces+1), list(9, 8, 7, 6, 5), make([]int, 1<<10)) {
			bad(func(p *api.Purse) { p.Prizes = prizes })
		}
		for _, coins := range list(-1, api.PurseCoins+1, math.MinInt, math.MaxInt) {
			bad(func(p *api.Purse) { p.Led = coins })
		}
		for _, hours := range list(-1, api.PurseHours+1, math.MinInt, math.MaxInt) {
			bad(func(p *api.Purse) { p.Hours[0] = hours })
			bad(func(p *api.Purse) { p.Hours[len(p.Hours)-1] = hours })
		}
		bad(func(p *api.Purse) { p.Hours = append(p.Hours, 0) })
		bad(func(p *api.Purse) { p.Hours = p.Hours[1:] })
		bad(func(p *api.Purse) { p.Hours = make([]int, 1<<10) })
		for _, pairs := range list(0, -1, api.CountPairs+1, 64, math.MinInt, math.MaxInt) {
			bad(func(p *api.Purse) { p.Board.Count.Pairs = pairs })
			bad(func(p *api.Purse) { p.Board.Sprints.Pairs = pairs })
			bad(func(p *api.Purse) { p.Board.Count.Pairs, p.Board.Sprints.Pairs = pairs, pairs })
		}
		bad(func(p *api.Purse) { p.Board.Count.Sheets = nil })
		bad(func(p *api.Purse) { p.Board.Count.Sheets[0] = list(p.Board.Count.Pairs) })
		bad(func(p *api.Purse) { p.Board.Sprints.Points = list(1, 2) })
		bad(func(p *api.Purse) { p.Board.Sprints.List[0].Ahead = list([2]int{0, 0}) })
	}
	return append(all, api.Purse{}, api.Purse{Board: exampleB()}, of(exampleB(), nil, 0, 1, 1), of(exampleB(), nil, 0, 1, 1, 1, 1))
}

// P13.2 to P13.6, R1, R2: whatever else is asked for, and whether there is a truth or not, a purse that is not valid comes first.
func TestNotValid(t *testing.T) {
	for _, p := range notValid() {
		refused(t, p, api.ErrArg)
	}
}

// P13.2, P13.3, P13.5, P13.6, R1, R2: pairs, sets of pairs and orders that are none come next, before a board without a truth.
func TestOutOfRange(t *testing.T) {
	for _, p := range append(bases(), clashes()...) {
		pairs := p.Board.Count.Pairs
		for _, n := range odd() {
			if n < 0 || n >= pairs {
				refusedPair(t, p, n, api.ErrRange)
			}
			if n < 0 || n >= 1<<pairs {
				refusedGroup(t, p, n, api.ErrRange)
			}
		}
		for _, order := range noLists(pairs) {
			refusedOrder(t, p, order, api.ErrRange)
		}
	}
}

// P13.2 to P13.6, R1, R2: a board without a truth, whether it is for the laps or for the points, comes before what is refused.
func TestNoTruth(t *testing.T) {
	for _, p := range clashes() {
		for pair := range p.Board.Count.Pairs {
			refusedPair(t, p, pair, api.ErrClash)
		}
		for pairs := range 1 << p.Board.Count.Pairs {
			refusedGroup(t, p, pairs, api.ErrClash)
		}
		for _, order := range perms(p.Board.Count.Pairs) {
			refusedOrder(t, p, order, api.ErrClash)
		}
		refusedAll(t, p, api.ErrClash)
		refusedAll(t, changed(p, func(p *api.Purse) { p.Prizes = nil }), api.ErrClash)
	}
}

// P13.1, R2: coins, hours and how many there are, out of their range.
func TestSplitOutOfRange(t *testing.T) {
	for _, x := range []struct {
		coins int
		hours []int
	}{
		{-1, list(1)}, {api.PurseCoins + 1, list(1)}, {math.MinInt, nil}, {math.MaxInt, list(0)}, {-1, nil}, {9, list(-1)}, {9, list(api.PurseHours + 1)}, {9, list(1, 2, -1)}, {9, list(1, 2, math.MaxInt)}, {9, list(math.MinInt, 2)}, {0, list(0, 0, -1)},
		{9, make([]int, api.PurseShares+1)}, {9, slices.Repeat(list(1), api.PurseShares+1)}, {0, make([]int, 1<<16)}, {-1, make([]int, api.PurseShares+1)},
	} {
		if coins, e := purse.Split(x.coins, x.hours); len(coins) != 0 || e != api.ErrRange {
			t.Error(x.coins, x.hours, coins, e)
		}
	}
}

// P13.1 to P13.6, R7: the limits themselves are valid, and so is 0.
func TestLimits(t *testing.T) {
	most := tell(full())
	if most.places[3] != so(span(0, 3)) || most.due[3] != so(span(6250, 6250)) || most.group[15] != so(span(25000, 25000)) || most.advance != advanceOf(list(6250, 6250, 6250, 6250), 0, api.OK) || most.ask[0].e != api.ErrRefuse {
		t.Errorf("%+v", most)
	}
	least := tell(empty())
	if least.places[0] != so(span(0, 0)) || least.due[0] != so(span(0, 0)) || least.group[1] != so(span(0, 0)) || least.advance != advanceOf(list(0), 0, api.OK) || least.ask[0].e != api.ErrRefuse || least.exact != fmt.Sprint(coinsSo(0)) {
		t.Errorf("%+v", least)
	}
	if s := coinsOf(purse.Split(api.PurseCoins, slices.Repeat(list(api.PurseHours), api.PurseShares))); s != coinsSo(625, 625, 625, 625, 625, 625, 625, 625) {
		t.Error(s)
	}
	if s := coinsOf(purse.Split(0, make([]int, api.PurseShares))); s != coinsSo(0, 0, 0, 0, 0, 0, 0, 0) {
		t.Error(s)
	}
}

// P1 of the document: no argument leads to a panic.
func TestAnyArguments(t *testing.T) {
	for _, a := range odd() {
		for _, b := range odd() {
			for _, p := range list(
				of(drawn(3), list(b, a), a, b, a, b), exampleP(), changed(exampleP(), func(p *api.Purse) { p.Board.Count.Pairs, p.Board.Sprints.Pairs = a, b }), changed(exampleP(), func(p *api.Purse) { p.Hours = nil; p.Board.Count.Pairs, p.Board.Sprints.Pairs = a, a }),
				changed(exampleP(), func(p *api.Purse) { p.Board.Sprints.List[0].Ahead = list([2]int{a, b}) }), changed(exampleP(), func(p *api.Purse) { p.Board.Count.Sheets[0] = list(a, b) }),
			) {
				purse.Places(p, a)
				purse.Due(p, a)
				purse.Group(p, b)
				purse.Advance(p)
				purse.Exact(p, list(a, b, 0))
				purse.Exact(p, list(0, 1, 2))
				purse.Ask(p, b)
			}
			purse.Split(a, list(b, a, 1))
		}
	}
	tell(of(exampleB(), make([]int, 1<<16), 0, make([]int, 1<<16)...))
}

// R3: no prizes are none, whether their list is nil or empty, and so it is with all other lists.
func TestNilAndEmpty(t *testing.T) {
	none, some := of(exampleB(), nil, 10, 5, 0, 2), of(exampleB(), []int{}, 10, 5, 0, 2)
	if a, b := tell(none), tell(some); a != b || a.due[0] != so(span(7, 7)) {
		t.Errorf("%+v %+v", a, b)
	}
	for _, p := range list(exampleP(), api.Purse{}) {
		none, some := p, p
		none.Hours, some.Hours = nil, []int{}
		refused(t, none, api.ErrArg)
		refused(t, some, api.ErrArg)
	}
	refusedOrder(t, exampleP(), nil, api.ErrRange)
	refusedOrder(t, exampleP(), []int{}, api.ErrRange)
	if a, b := coinsOf(purse.Split(3, nil)), coinsOf(purse.Split(3, []int{})); a != b || a != coinsSo() {
		t.Error(a, b)
	}
}

// R4: a purse, an order and hours are as they were, also what is behind their lists in the same memory, and what is told is the caller's own.
func TestMemory(t *testing.T) {
	prizes, hours, order := list(100, 60, 30, 9), list(5, 0, 2, 9), list(2, 0, 1, 9)
	p := of(exampleB(), prizes[:3], 10, hours[:3]...)
	was, before := copied(p), tell(p)
	for range 2 {
		paid, _, _ := purse.Advance(p)
		exact, _ := purse.Exact(p, order[:3])
		split, _ := purse.Split(10, hours[:3])
		for _, coins := range list(paid[:cap(paid)], exact[:cap(exact)], split[:cap(split)]) {
			for i := range coins {
				coins[i] = 99
			}
		}
	}
	if tell(p) != before || coinsOf(purse.Split(10, hours[:3])) != coinsSo(7, 0, 3) {
		t.Error("shared", tell(p))
	}
	if !equal(p, was) || prizes[3] != 9 || !slices.Equal(hours, list(5, 0, 2, 9)) || !slices.Equal(order, list(2, 0, 1, 9)) {
		t.Error("changed", p, prizes, hours, order)
	}
}

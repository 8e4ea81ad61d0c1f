package board_test

import (
	"math"
	"slices"
	"testing"

	"lapworks/api"
	"lapworks/board"
)

// odd returns numbers, many of which are out of every range.
func odd() []int {
	return list(math.MinInt, -1, 0, 1, 2, 3, 4, 5, 7, math.MaxInt)
}

// refusedTwo tests that nothing is told of two pairs but an error.
func refusedTwo(t *testing.T, b api.Board, pair, other int, want api.Errno) {
	t.Helper()
	if n, e := board.Ahead(b, pair, other); n != 0 || e != want {
		t.Errorf("Ahead %+v %v %v: %v %v", b, pair, other, n, e)
	}
	if laps, points, e := board.Gap(b, pair, other); laps != (api.Span{}) || points != (api.Span{}) || e != want {
		t.Errorf("Gap %+v %v %v: %v %v %v", b, pair, other, laps, points, e)
	}
	if kind, number, e := board.Settle(b, pair, other); kind != 0 || number != 0 || e != want {
		t.Errorf("Settle %+v %v %v: %v %v %v", b, pair, other, kind, number, e)
	}
	if n, e := board.Need(b, pair, other); n != 0 || e != want {
		t.Errorf("Need %+v %v %v: %v %v", b, pair, other, n, e)
	}
}

// refusedRank tests that the ranks of a pair are refused with an error.
func refusedRank(t *testing.T, b api.Board, pair int, want api.Errno) {
	t.Helper()
	if s, e := board.Rank(b, pair); s != (api.Span{}) || e != want {
		t.Errorf("Rank %+v %v: %v %v", b, pair, s, e)
	}
}

// refusedAll tests that nothing is told of all pairs together but an error.
func refusedAll(t *testing.T, b api.Board, want api.Errno) {
	t.Helper()
	if surely, perhaps, e := board.Leads(b); surely != 0 || perhaps != 0 || e != want {
		t.Errorf("Leads %+v: %v %v %v", b, surely, perhaps, e)
	}
	if o, e := board.Order(b); len(o) != 0 || e != want {
		t.Errorf("Order %+v: %v %v", b, o, e)
	}
	if many, first, e := board.Orders(b); many != 0 || len(first) != 0 || e != want {
		t.Errorf("Orders %+v: %v %v %v", b, many, first, e)
	}
}

// noRace returns a board of at least two pairs with sheets that no race fits: the third one is longer than each race by which the first two have the fewest errors.
func noRace(b api.Board) api.Board {
	return changed(b, func(b *api.Board) { b.Count.Sheets = list([]int{0, 1}, []int{1, 0}, []int{0, 1, 0, 1}) })
}

// noOrder returns a board of at least two pairs with a sprint more, that can have ended in no order.
func noOrder(b api.Board) api.Board {
	return changed(b, func(b *api.Board) {
		b.Sprints.List = append(b.Sprints.List, seen(list([2]int{0, 1}, [2]int{1, 0})))
	})
}

// bases returns valid boards of at least two pairs, with truths and without.
func bases() []api.Board {
	return list(exampleB(), exampleL(), two(), full(), noRace(exampleB()), noOrder(exampleB()), noOrder(two()), noOrder(noRace(sheets(4, nil))))
}

// full returns a board with as much of all as there can be.
func full() api.Board {
	b := sheets(4, list(0, 1, 2, 3, 2, 1), list(0, 1, 2, 3, 1, 1), list(3, 1, 2, 3, 2, 1), list(0, 1, 2, 3, 2, 0))
	s := double(seen(slices.Repeat(list([2]int{0, 1}, [2]int{3, 2}), 4), slices.Repeat(list(placed(0, 0, 3), placed(3, 1, 2)), 3)...))
	return with(b, list(50, 50, 40, 30, 0, 0), s, s, s, s)
}

// badCounts returns boards of which the count alone is not valid.
func badCounts(b api.Board) []api.Board {
	var all []api.Board
	bad := func(change func(c *api.Count)) {
		all = append(all, changed(b, func(b *api.Board) { change(&b.Count) }))
	}
	for _, pairs := range list(0, -1, api.CountPairs+1, math.MinInt, math.MaxInt) {
		bad(func(c *api.Count) { c.Pairs = pairs })
	}
	bad(func(c *api.Count) { c.Sheets = nil })
	bad(func(c *api.Count) { c.Sheets = slices.Repeat(c.Sheets[:1], api.CountSheets+1) })
	bad(func(c *api.Count) { c.Sheets[0] = make([]int, api.CountPassings+1) })
	for _, pair := range list(-1, b.Count.Pairs, math.MinInt, math.MaxInt) {
		bad(func(c *api.Count) { c.Sheets[0] = list(0, pair) })
		bad(func(c *api.Count) { c.Sheets[len(c.Sheets)-1] = list(pair) })
	}
	return all
}

// badSprints returns boards of which the sprints alone are not valid.
func badSprints(b api.Board) []api.Board {
	var all []api.Board
	bad := func(change func(s *api.Sprints)) {
		all = append(all, changed(b, func(b *api.Board) { change(&b.Sprints) }))
	}
	for _, pairs := range list(0, -1, api.SprintPairs+1, math.MinInt, math.MaxInt) {
		bad(func(s *api.Sprints) { s.Pairs = pairs })
	}
	for _, points := range list(list(-1), list(api.SprintPoints+1), list(1, 2), make([]int, api.SprintPairs+1), list(math.MaxInt), list(math.MinInt)) {
		bad(func(s *api.Sprints) { s.Points = points })
	}
	bad(func(s *api.Sprints) { s.List = make([]api.Sprint, api.SprintList+1) })
	for _, one := range list(
		seen(list([2]int{1, 1})), seen(list([2]int{0, b.Sprints.Pairs})), seen(list([2]int{-1, 0})), seen(slices.Repeat(list([2]int{0, 1}), api.SprintAhead+1)),
		seen(nil, placed(b.Sprints.Pairs, 0, 0)), seen(nil, placed(0, 1, 0)), seen(nil, placed(0, 0, b.Sprints.Pairs)), seen(nil, placed(0, -1, 0)), seen(nil, slices.Repeat(list(placed(0, 0, 1)), api.SprintPlaces+1)...),
	) {
		bad(func(s *api.Sprints) { s.List = list(one) })
	}
	return all
}

// notValid returns boards that are not valid, also some of which the count and the sprints are, but not of as many pairs.
func notValid() []api.Board {
	all := list(api.Board{}, sheets(5, nil), sheets(6, nil), sheets(0, nil), sheets(-1, nil), sheets(1000, nil), sheets(1))
	for _, b := range bases() {
		all = append(all, badCounts(b)...)
		all = append(all, badSprints(b)...)
	}
	for pairs := range api.CountPairs {
		for others := range api.SprintPairs {
			if pairs != others {
				b := sheets(1+pairs, nil)
				b.Sprints.Pairs = 1 + others
				all = append(all, b)
			}
		}
	}
	// Not as many pairs, and no truth.
	return append(all, changed(noRace(two()), func(b *api.Board) { b.Sprints.Pairs = 3 }), changed(noOrder(two()), func(b *api.Board) { b.Count.Pairs = 3 }), changed(noOrder(two()), func(b *api.Board) { b.Count.Pairs = 1 }))
}

// P8.1 to P8.7, R1, R2: whatever else is asked for, and whether there is a truth or not, a board that is not valid comes first.
func TestNotValid(t *testing.T) {
	for _, b := range notValid() {
		refusedAll(t, b, api.ErrArg)
		for _, n := range list(0, 1, -1, api.CountPairs, math.MinInt, math.MaxInt) {
			refusedRank(t, b, n, api.ErrArg)
			refusedTwo(t, b, n, 0, api.ErrArg)
			refusedTwo(t, b, 1, n, api.ErrArg)
		}
	}
}

// P8.1 to P8.3, P8.6, P8.7, R1, R2: pairs that are none, and two that do not differ, come before that there is no truth.
func TestOutOfRange(t *testing.T) {
	for _, b := range append(bases(), sheets(1, nil)) {
		pairs := b.Count.Pairs
		for _, n := range list(-1, pairs, pairs+1, 64, math.MinInt, math.MaxInt) {
			refusedRank(t, b, n, api.ErrRange)
			refusedTwo(t, b, n, 0, api.ErrRange)
			refusedTwo(t, b, 0, n, api.ErrRange)
			refusedTwo(t, b, n, n, api.ErrRange)
			refusedTwo(t, b, n, -1, api.ErrRange)
		}
		for pair := range pairs {
			refusedTwo(t, b, pair, pair, api.ErrRange)
		}
	}
}

// P8.1 to P8.7, R1, R2: without a truth, of the count or of the sprints, nothing is told, though it would be refused or in doubt.
func TestClash(t *testing.T) {
	for _, b := range list(noRace(exampleB()), noRace(two()), noRace(sheets(4, nil)), noOrder(exampleB()), noOrder(exampleE()), noOrder(two()), noOrder(sheets(4, nil)), noOrder(sheets(2, list(1))), noOrder(noRace(exampleL()))) {
		refusedAll(t, b, api.ErrClash)
		for pair := range b.Count.Pairs {
			refusedRank(t, b, pair, api.ErrClash)
			for other := range b.Count.Pairs {
				if other != pair {
					refusedTwo(t, b, pair, other, api.ErrClash)
				}
			}
		}
	}
	// The sprints of a single pair always can be so, its sheets need not.
	if many, first, e := board.Orders(with(sheets(1, list(0)), list(5), seen(nil, placed(0, 0, 0)))); many != 1 || !slices.Equal(first, list(0)) || e != api.OK {
		t.Error(many, first, e)
	}
	refusedAll(t, sheets(1, list(0), list(0, 0), list(0, 0, 0)), api.ErrClash)
	refusedRank(t, sheets(1, list(0), list(0, 0), list(0, 0, 0)), 0, api.ErrClash)
}

// R7: the limits themselves are valid.
func TestLimits(t *testing.T) {
	a := ask(full())
	if a.leads.e != api.OK || a.orders.e != api.OK || a.ahead[1][0].e != api.OK {
		t.Errorf("%+v", a)
	}
	if n := a.ahead[1][3].result; n != api.BoardAlways {
		t.Error(n)
	}
	if a := ask(sheets(1, nil)); a.leads.result != [2]int{1, 1} || a.order.result != "[0]" || a.orders.result != "1 [0]" || a.rank[0] != (outcome[api.Span]{}) {
		t.Errorf("%+v", a)
	}
}

// P1 of the document: no argument leads to a panic.
func TestAnyArguments(t *testing.T) {
	for _, m := range odd() {
		for _, n := range odd() {
			for _, b := range list(
				sheets(m, list(n)), sheets(2, list(m), list(n)), with(sheets(2, list(0)), list(m, n), free()), with(two(), list(3), seen(list([2]int{m, n}))), with(two(), list(3), seen(nil, placed(0, m, n), placed(m, 0, n))),
				api.Board{Count: api.Count{Pairs: m, Sheets: list([]int{})}, Sprints: api.Sprints{Pairs: n}}, exampleB(),
			) {
				ask(b)
				board.Ahead(b, m, n)
				board.Gap(b, m, n)
				board.Rank(b, m)
				board.Settle(b, m, n)
				board.Need(b, m, n)
			}
		}
	}
	ask(api.Board{})
	ask(sheets(4, make([]int, 1<<16)))
	ask(api.Board{Count: api.Count{Pairs: 4, Sheets: make([][]int, 1<<16)}, Sprints: api.Sprints{Pairs: 4, List: make([]api.Sprint, 1<<16)}})
}

// R3: lists that are empty are as none.
func TestNilAndEmpty(t *testing.T) {
	empty := sheets(3, []int{}, []int{})
	empty.Sprints.Points, empty.Sprints.List = []int{}, []api.Sprint{}
	if a, b := ask(empty), ask(sheets(3, nil, nil)); a != b || a.orders != (outcome[string]{"6 [0 1 2]", api.OK}) {
		t.Errorf("%+v %+v", a, b)
	}
	if a, b := ask(with(empty, list(2), api.Sprint{Ahead: [][2]int{}, Places: []api.SprintPlace{}})), ask(with(empty, list(2), free())); a != b {
		t.Errorf("%+v %+v", a, b)
	}
	refusedAll(t, changed(empty, func(b *api.Board) { b.Count.Sheets = [][]int{} }), api.ErrArg)
}

// P8.8, R4: a board is as it was, also what is behind its lists in the same memory, and an order that is told is the caller's own.
func TestMemory(t *testing.T) {
	passings, points := list(0, 0, 1, 7, 8, 9), list(3, 1, 99)
	ahead, places := list([2]int{0, 1}, [2]int{9, 9}), list(placed(0, 0, 1), placed(9, 9, 9))
	all := list(seen(ahead[:1], places[:1]...), seen(list([2]int{8, 8})))
	rows := list(passings[:3], list(7))
	b := with(sheets(3, nil), nil)
	b.Count.Sheets, b.Sprints.Points, b.Sprints.List = rows[:1], points[:2], all[:1]
	was := copied(b)
	before := ask(b)
	if !equal(b, was) || !slices.Equal(passings, list(0, 0, 1, 7, 8, 9)) || !slices.Equal(points, list(3, 1, 99)) || ahead[1] != [2]int{9, 9} || places[1] != placed(9, 9, 9) || all[1].Ahead[0] != [2]int{8, 8} || !slices.Equal(rows[1], list(7)) {
		t.Error(b, passings, points, ahead, places, all, rows)
	}
	order, again := must(board.Order(b))(t), must(board.Order(b))(t)
	_, first, _ := board.Orders(b)
	_, other, _ := board.Orders(b)
	for _, l := range list(order[:cap(order)], first[:cap(first)]) {
		for i := range l {
			l[i] = 9
		}
	}
	if !slices.Equal(again, list(0, 1, 2)) || !slices.Equal(other, list(0, 1, 2)) || ask(b) != before || !equal(b, was) {
		t.Error("shared", again, other)
	}
}

package board_test

import (
	"cmp"
	"fmt"
	"math/bits"
	"math/rand"
	"slices"
	"testing"

	"lapworks/api"
	"lapworks/board"
)

// What the chapters define is done here as it stands there: all races and all orders of sprints are written down, each two of them are a truth of the board, and then it is looked what is so in all of these.

// lists returns all lists of at most so many pairs, in order.
func lists(pairs, most int) [][]int {
	all := [][]int{nil}
	if most == 0 {
		return all
	}
	for first := range pairs {
		for _, l := range lists(pairs, most-1) {
			all = append(all, append(list(first), l...))
		}
	}
	return all
}

// permutations returns all lists of so many pairs, each once, in order.
func permutations(pairs int) [][]int {
	return slices.DeleteFunc(lists(pairs, pairs), func(l []int) bool {
		sorted := slices.Sorted(slices.Values(l))
		return len(l) < pairs || len(slices.Compact(sorted)) < pairs
	})
}

// errorsBy returns how many errors a sheet has by a race, and whether there is such a number.
func errorsBy(race, sheet []int) (int, bool) {
	fewest, found := 0, false
	for kept := range 1 << len(race) {
		if bits.OnesCount(uint(kept)) != len(sheet) {
			continue
		}
		errors, at := len(race)-len(sheet), 0
		for i, p := range race {
			if kept>>i&1 == 1 {
				if sheet[at] != p {
					errors++
				}
				at++
			}
		}
		if !found || errors < fewest {
			fewest, found = errors, true
		}
	}
	return fewest, found
}

// leastBy returns those of the races for which the number is least, without those that have none.
func leastBy(races [][]int, number func([]int) (int, bool)) [][]int {
	var kept [][]int
	least := 0
	for _, race := range races {
		n, ok := number(race)
		if !ok {
			continue
		}
		if len(kept) == 0 || n < least {
			kept, least = nil, n
		}
		if n == least {
			kept = append(kept, race)
		}
	}
	return kept
}

// racesOf returns the truths of a count.
func racesOf(c api.Count) [][]int {
	if len(c.Sheets) == 1 {
		return list(c.Sheets[0])
	}
	races := leastBy(lists(c.Pairs, len(c.Sheets[0])+len(c.Sheets[1])), func(race []int) (int, bool) {
		n, ok := errorsBy(race, c.Sheets[0])
		m, well := errorsBy(race, c.Sheets[1])
		return n + m, ok && well
	})
	for _, sheet := range c.Sheets[2:] {
		races = leastBy(races, func(race []int) (int, bool) { return errorsBy(race, sheet) })
	}
	return races
}

// numbers is a number of each pair.
type numbers [api.CountPairs]int

// lapsOf returns how many laps each pair has in a race.
func lapsOf(race []int) numbers {
	var n numbers
	for _, pair := range race {
		n[pair]++
	}
	return n
}

// right returns whether a sprint can have ended in an order.
func right(s api.Sprint, order []int) bool {
	for _, a := range s.Ahead {
		if slices.Index(order, a[0]) > slices.Index(order, a[1]) {
			return false
		}
	}
	for _, p := range s.Places {
		if place := slices.Index(order, p.Pair); place < p.Place.Lo || place > p.Place.Hi {
			return false
		}
	}
	return true
}

// pointsOf returns how many points each pair has by the order of a sprint.
func pointsOf(s api.Sprints, one api.Sprint, order []int) numbers {
	var n numbers
	for place, pair := range order {
		if place < len(s.Points) {
			n[pair] = s.Points[place]
		}
		if one.Double {
			n[pair] *= 2
		}
	}
	return n
}

// allPoints returns the points that all pairs have in the truths of some sprints, each once.
func allPoints(s api.Sprints) []numbers {
	all := map[numbers]bool{{}: true}
	for _, one := range s.List {
		next := map[numbers]bool{}
		for _, order := range permutations(s.Pairs) {
			if !right(one, order) {
				continue
			}
			have := pointsOf(s, one, order)
			for n := range all {
				for pair := range n {
					n[pair] += have[pair]
				}
				next[n] = true
			}
		}
		all = next
	}
	var each []numbers
	for n := range all {
		each = append(each, n)
	}
	return each
}

// truth is what each pair has in a truth of the board.
type truth struct{ laps, points numbers }

// truths returns all truths of a board, by the races that can be.
func truths(b api.Board, races [][]int) []truth {
	known := map[numbers]bool{}
	var all []truth
	for _, race := range races {
		laps := lapsOf(race)
		if known[laps] {
			continue
		}
		known[laps] = true
		for _, points := range allPoints(b.Sprints) {
			all = append(all, truth{laps, points})
		}
	}
	return all
}

// stands returns 1 if a pair is ahead of another one, 0 if both are level, and -1 if it is behind, by laps and then by points.
func (t truth) stands(pair, other int) int {
	if t.laps[pair] != t.laps[other] {
		return cmp.Compare(t.laps[pair], t.laps[other])
	}
	return cmp.Compare(t.points[pair], t.points[other])
}

// inAll returns whether something is so in all truths, and inNone whether it is in none.
func inAll(all []truth, so func(t truth) bool) bool {
	return !slices.ContainsFunc(all, func(t truth) bool { return !so(t) })
}

func inNone(all []truth, so func(t truth) bool) bool { return !slices.ContainsFunc(all, so) }

// spanOf returns the span of a number, of all truths.
func spanOf(all []truth, number func(t truth) int) api.Span {
	s := span(number(all[0]), number(all[0]))
	for _, t := range all {
		s = span(min(s.Lo, number(t)), max(s.Hi, number(t)))
	}
	return s
}

// surely returns whether a pair is ahead of another one in all truths.
func surely(all []truth, pair, other int) bool {
	return inAll(all, func(t truth) bool { return t.stands(pair, other) > 0 })
}

// aheadOf returns what Ahead has to return.
func aheadOf(all []truth, pair, other int) outcome[int] {
	switch {
	case surely(all, pair, other):
		return outcome[int]{result: api.BoardAlways}
	case inNone(all, func(t truth) bool { return t.stands(pair, other) > 0 }):
		return outcome[int]{result: api.BoardNever}
	}
	return outcome[int]{result: api.BoardPerhaps}
}

// needOf returns what Need has to return.
func needOf(all []truth, pair, other int) outcome[int] {
	if !inNone(all, func(t truth) bool { return t.laps[pair] < t.laps[other] }) {
		return outcome[int]{e: api.ErrNone}
	}
	for more := 0; ; more++ {
		if inAll(all, func(t truth) bool {
			t.points[pair] += more
			return t.stands(pair, other) > 0
		}) {
			return outcome[int]{result: more}
		}
	}
}

// passingOf returns the passing that settles who of two has more laps.
func passingOf(races [][]int, pair, other int) outcome[[2]int] {
	side := func(race []int) int { return cmp.Compare(lapsOf(race)[pair], lapsOf(race)[other]) }
passings:
	for passing := range 2 * api.CountPassings {
		sides := map[int]int{}
		for _, race := range races {
			who := -1
			if passing < len(race) {
				who = race[passing]
			}
			if s, found := sides[who]; found && s != side(race) {
				continue passings
			}
			sides[who] = side(race)
		}
		return outcome[[2]int]{result: [2]int{api.BoardPassing, passing}}
	}
	return outcome[[2]int]{e: api.ErrNone}
}

// sprintOf returns the sprint that would settle who of two is ahead.
func sprintOf(s api.Sprints, pair, other int) outcome[[2]int] {
	number, widest := 0, -1
	for i, one := range s.List {
		alone := s
		alone.List = list(one)
		var margins []int
		for _, n := range allPoints(alone) {
			margins = append(margins, n[pair]-n[other])
		}
		if wide := slices.Max(margins) - slices.Min(margins); wide > widest {
			number, widest = i, wide
		}
	}
	return outcome[[2]int]{result: [2]int{api.BoardSprint, number}}
}

// settleOf returns what Settle has to return.
func settleOf(b api.Board, races [][]int, all []truth, pair, other int) outcome[[2]int] {
	if surely(all, pair, other) || surely(all, other, pair) || inAll(all, func(t truth) bool { return t.stands(pair, other) == 0 }) {
		return outcome[[2]int]{e: api.ErrRefuse}
	}
	sides := spanOf(all, func(t truth) int { return cmp.Compare(t.laps[pair], t.laps[other]) })
	if sides.Lo < sides.Hi {
		return passingOf(races, pair, other)
	}
	return sprintOf(b.Sprints, pair, other)
}

// rankOf returns what Rank has to return.
func rankOf(all []truth, pairs, pair int) outcome[api.Span] {
	var s api.Span
	for other := range pairs {
		if other != pair && surely(all, other, pair) {
			s.Lo++
		}
		if other != pair && !surely(all, pair, other) {
			s.Hi++
		}
	}
	return outcome[api.Span]{result: s}
}

// leadsOf returns what Leads has to return.
func leadsOf(all []truth, pairs int) outcome[[2]int] {
	var leads [2]int
	for pair := range pairs {
		always, sometimes := true, true
		for other := range pairs {
			always = always && inNone(all, func(t truth) bool { return t.stands(other, pair) > 0 })
			sometimes = sometimes && !surely(all, other, pair)
		}
		if always {
			leads[0] |= 1 << pair
		}
		if sometimes {
			leads[1] |= 1 << pair
		}
	}
	return outcome[[2]int]{result: leads}
}

// ordered returns all lists of all pairs in which nobody comes before one who is surely ahead, and whether of each two one surely is.
func ordered(all []truth, pairs int) ([][]int, bool) {
	sure := true
	for pair := range pairs {
		for other := range pair {
			sure = sure && (surely(all, pair, other) || surely(all, other, pair))
		}
	}
	return slices.DeleteFunc(permutations(pairs), func(order []int) bool {
		for place, pair := range order {
			for _, behind := range order[place+1:] {
				if surely(all, behind, pair) {
					return true
				}
			}
		}
		return false
	}), sure
}

// clashing returns what has to be told of a board of so many pairs without a truth.
func clashing(pairs int) told {
	none, noLists := outcome[int]{e: api.ErrClash}, outcome[[2]int]{e: api.ErrClash}
	a := told{leads: noLists, order: outcome[string]{"[]", api.ErrClash}, orders: outcome[string]{"0 []", api.ErrClash}}
	for pair := range pairs {
		a.rank[pair].e = api.ErrClash
		for other := range pairs {
			a.ahead[pair][other], a.need[pair][other], a.settle[pair][other], a.gap[pair][other].e = none, none, noLists, api.ErrClash
		}
	}
	return a
}

// itself puts into what is told that a pair is not asked about itself.
func (a told) itself(pairs int) told {
	for pair := range pairs {
		a.ahead[pair][pair].e, a.need[pair][pair].e, a.settle[pair][pair].e, a.gap[pair][pair].e = api.ErrRange, api.ErrRange, api.ErrRange, api.ErrRange
	}
	return a
}

// expected returns all that has to be told of a board, and its truths.
func expected(b api.Board) (told, []truth) {
	races, pairs := racesOf(b.Count), b.Count.Pairs
	all := truths(b, races)
	if len(all) == 0 {
		return clashing(pairs).itself(pairs), nil
	}
	a := told{leads: leadsOf(all, pairs), order: outcome[string]{"[]", api.ErrDoubt}}
	orders, sure := ordered(all, pairs)
	a.orders.result = fmt.Sprint(len(orders), orders[0])
	if sure {
		a.order = writtenOf(orders[0], api.OK)
	}
	for pair := range pairs {
		a.rank[pair] = rankOf(all, pairs, pair)
		for other := range pairs {
			if other == pair {
				continue
			}
			a.ahead[pair][other], a.need[pair][other] = aheadOf(all, pair, other), needOf(all, pair, other)
			a.settle[pair][other] = settleOf(b, races, all, pair, other)
			a.gap[pair][other].result = [2]api.Span{
				spanOf(all, func(t truth) int { return t.laps[pair] - t.laps[other] }),
				spanOf(all, func(t truth) int { return t.points[pair] - t.points[other] }),
			}
		}
	}
	return a.itself(pairs), all
}

// checked tests all that is told of a board, and returns it with the truths of the board.
func checked(t *testing.T, b api.Board) (told, []truth) {
	t.Helper()
	a := ask(b)
	want, all := expected(b)
	if a != want {
		t.Errorf("%+v: %+v, not %+v", b, a, want)
	}
	return a, all
}

// kinds counts what kinds of boards a test meets.
type kinds struct{ always, perhaps, doubt, sure, clash, passing, sprint, none, refuse int }

// add counts what is told of a board.
func (k *kinds) add(pairs int, a told) {
	switch a.order.e {
	case api.OK:
		k.sure++
	case api.ErrDoubt:
		k.doubt++
	case api.ErrClash:
		k.clash++
	}
	for pair := range pairs {
		for other := range pair {
			switch a.ahead[pair][other].result {
			case api.BoardAlways:
				k.always++
			case api.BoardPerhaps:
				k.perhaps++
			}
			switch s := a.settle[pair][other]; {
			case s.result[0] == api.BoardPassing:
				k.passing++
			case s.result[0] == api.BoardSprint:
				k.sprint++
			case s.e == api.ErrNone:
				k.none++
			case s.e == api.ErrRefuse:
				k.refuse++
			}
		}
	}
}

// enough returns whether there are so many of each kind.
func (k *kinds) enough(n int) bool {
	return min(k.always, k.perhaps, k.doubt, k.sure, k.clash, k.passing, k.sprint, k.none, k.refuse) >= n
}

// P8.1 to P8.7, P2, P3, P8 of the document: boards of each number of pairs, sheets and sprints, with and without a truth.
func TestAgainstAllTruths(t *testing.T) {
	r := rand.New(rand.NewSource(301))
	var k kinds
	for i := range 600 {
		pairs := 1 + i%api.CountPairs
		b, _ := random(r, pairs, 1+i/4%api.CountSheets, list(0, 4, 4, 3, 3)[pairs], r.Intn(4-pairs/2+1))
		if i%10 == 9 && len(b.Sprints.List) > 0 {
			see(r, &b.Sprints.List[0], r.Perm(pairs))
		}
		a, _ := checked(t, b)
		k.add(pairs, a)
	}
	if !k.enough(20) {
		t.Errorf("too few of a kind for a test: %+v", k)
	}
}

// P8.9: whatever truly is, whoever is told to be ahead is, nobody leads who is told not to, and each pair's rank is among those that are told.
func TestEachTruthIsWithin(t *testing.T) {
	r := rand.New(rand.NewSource(302))
	for i := range 150 {
		pairs := 2 + i%3
		b, _ := random(r, pairs, 1+i/3%3, 3, 1+i%2)
		a, all := checked(t, b)
		for _, x := range all {
			within(t, b, a, x)
		}
	}
}

// within tests that a truth of a board is within what is told of it.
func within(t *testing.T, b api.Board, a told, x truth) {
	t.Helper()
	for pair := range b.Count.Pairs {
		rank := 0
		for other := range b.Count.Pairs {
			if other == pair {
				continue
			}
			stands := x.stands(pair, other)
			if stands < 0 {
				rank++
			}
			if n := a.ahead[pair][other].result; n == api.BoardAlways && stands <= 0 || n == api.BoardNever && stands > 0 {
				t.Errorf("%+v %+v: %v %v %v", b, x, pair, other, n)
			}
			laps, points := x.laps[pair]-x.laps[other], x.points[pair]-x.points[other]
			if g := a.gap[pair][other].result; !inside(span(laps, laps), g[0]) || !inside(span(points, points), g[1]) {
				t.Errorf("%+v %+v: %v %v %v", b, x, pair, other, g)
			}
		}
		if !inside(span(rank, rank), a.rank[pair].result) {
			t.Errorf("%+v %+v: %v %v", b, x, pair, a.rank[pair])
		}
		if leads := a.leads.result; rank > 0 && leads[0]>>pair&1 == 1 || rank == 0 && leads[1]>>pair&1 == 0 {
			t.Errorf("%+v %+v: %v %v", b, x, pair, leads)
		}
	}
}

// P8.1, P8.6: all boards of two pairs with two sheets of two passings at most, and a sprint that leaves all open, or nothing.
func TestAllSmallBoards(t *testing.T) {
	for _, s := range list(api.Sprint{}, seen(list([2]int{0, 1})), seen(list([2]int{1, 0}))) {
		for _, points := range list([]int(nil), list(1), list(2, 1), list(3, 3)) {
			for _, one := range lists(2, 2) {
				for _, other := range lists(2, 2) {
					checked(t, with(sheets(2, one, other), points, s))
				}
			}
		}
	}
}

// P8.5: the first order is one in which nobody comes before one who is surely ahead, and each one that is not told to be an order has somebody who does.
func TestOrdersOfLargeBoards(t *testing.T) {
	r := rand.New(rand.NewSource(303))
	for range 60 {
		b, _ := large(r)
		a := ask(b)
		if a.leads.e != api.OK {
			continue
		}
		many, first, e := board.Orders(b)
		orders := slices.DeleteFunc(permutations(b.Count.Pairs), func(order []int) bool {
			for place, pair := range order {
				for _, behind := range order[place+1:] {
					if a.surely(behind, pair) {
						return true
					}
				}
			}
			return false
		})
		if many != len(orders) || !slices.Equal(first, orders[0]) || e != api.OK {
			t.Errorf("%+v: %v %v %v", b, many, first, e)
		}
	}
}

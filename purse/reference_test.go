package purse_test

import (
	"fmt"
	"math/rand"
	"slices"
	"testing"

	"lapworks/api"
	"lapworks/board"
	"lapworks/purse"
)

// What the chapter defines is done here as it stands there: all lists of all pairs are gone through.

// divided returns what each one gets of coins that are split by hours.
func divided(coins int, hours []int) []int {
	got, left, all := make([]int, len(hours)), make([]int, len(hours)), total(hours)
	if all == 0 {
		return got
	}
	for i, own := range hours {
		got[i], left[i] = coins*own/all, coins*own%all
	}
	for coins -= total(got); coins > 0; coins-- {
		most := 0
		for i := range left {
			if left[i] > left[most] {
				most = i
			}
		}
		got[most]++
		left[most] = -1
	}
	return got
}

// lines returns who is surely ahead of whom on a board.
func lines(b api.Board) [][2]int {
	var all [][2]int
	for pair := range b.Count.Pairs {
		for other := range b.Count.Pairs {
			if n, e := board.Ahead(b, pair, other); e == api.OK && n == api.BoardAlways {
				all = append(all, [2]int{pair, other})
			}
		}
	}
	return all
}

// finals returns all final orders of so many pairs.
func finals(pairs int, ahead ...[2]int) [][]int {
	var all [][]int
next:
	for _, order := range perms(pairs) {
		for _, two := range ahead {
			if slices.Index(order, two[0]) > slices.Index(order, two[1]) {
				continue next
			}
		}
		all = append(all, order)
	}
	return all
}

// due returns what is due to each pair by an order.
func due(p api.Purse, order []int) []int {
	coins := divided(p.Led, p.Hours)
	for place, pair := range order {
		if place < len(p.Prizes) {
			coins[pair] += p.Prizes[place]
		}
	}
	return coins
}

// spanOf returns the span from the least to the greatest number of something, of all orders.
func spanOf(orders [][]int, number func(order []int) int) api.Span {
	s := span(number(orders[0]), number(orders[0]))
	for _, order := range orders {
		s = span(min(s.Lo, number(order)), max(s.Hi, number(order)))
	}
	return s
}

// dueTo returns the span of what is due to some pairs together, of all orders.
func dueTo(p api.Purse, orders [][]int, pairs int) api.Span {
	return spanOf(orders, func(order []int) int {
		all := 0
		for pair, coins := range due(p, order) {
			if has(pairs, pair) {
				all += coins
			}
		}
		return all
	})
}

// asked returns of whom one would have to know who is ahead.
func asked(p api.Purse, ahead [][2]int, pair int) outcome[[2]int] {
	wide := func(more ...[2]int) int {
		s := dueTo(p, finals(len(p.Hours), append(slices.Clone(ahead), more...)...), 1<<pair)
		return s.Hi - s.Lo
	}
	if wide() == 0 {
		return outcome[[2]int]{e: api.ErrRefuse}
	}
	best := [2]int{-1, 0}
	for other := range p.Hours {
		one, two := [2]int{pair, other}, [2]int{other, pair}
		if other == pair || slices.Contains(ahead, one) || slices.Contains(ahead, two) {
			continue
		}
		if most := max(wide(one), wide(two)); best[0] < 0 || most < best[1] {
			best = [2]int{other, most}
		}
	}
	return so(best)
}

// expected returns what is to be told of a purse if some pairs surely are ahead of others, and who is so by these.
func expected(p api.Purse, ahead [][2]int) told {
	pairs := len(p.Hours)
	orders := finals(pairs, ahead...)
	var x told
	var coins []int
	for pair := range x.places {
		if pair >= pairs {
			x.places[pair].e, x.due[pair].e, x.ask[pair].e = api.ErrRange, api.ErrRange, api.ErrRange
			continue
		}
		x.places[pair] = so(spanOf(orders, func(order []int) int { return slices.Index(order, pair) }))
		x.due[pair], x.ask[pair] = so(dueTo(p, orders, 1<<pair)), asked(p, ahead, pair)
		coins = append(coins, x.due[pair].result.Lo)
	}
	for set := range x.group {
		x.group[set] = outcome[api.Span]{e: api.ErrRange}
		if set < 1<<pairs {
			x.group[set] = so(dueTo(p, orders, set))
		}
	}
	x.advance = advanceOf(coins, total(due(p, orders[0]))-total(coins), api.OK)
	for _, order := range perms(pairs) {
		exact := coinsOf(nil, api.ErrRefuse)
		if slices.ContainsFunc(orders, func(final []int) bool { return slices.Equal(final, order) }) {
			exact = coinsSo(due(p, order)...)
		}
		x.exact += fmt.Sprint(exact)
	}
	return x
}

// closed returns who is surely ahead of whom, carried on, or nothing if somebody would be ahead of themselves.
func closed(pairs int, ahead [][2]int) (all [][2]int, can bool) {
	all = slices.Clone(ahead)
	for range pairs {
		for _, one := range all {
			for _, two := range all {
				if carried := [2]int{one[0], two[1]}; one[1] == two[0] && !slices.Contains(all, carried) {
					all = append(all, carried)
				}
			}
		}
	}
	return all, !slices.ContainsFunc(all, func(two [2]int) bool { return two[0] == two[1] })
}

// duels returns all lists of who is ahead of whom, so that of each two of so many pairs one is ahead, the other one, or nobody.
func duels(pairs int) [][][2]int {
	all := [][][2]int{nil}
	for a := range pairs {
		for b := range a {
			for _, l := range all[:len(all):len(all)] {
				all = append(all, append(slices.Clone(l), [2]int{a, b}), append(slices.Clone(l), [2]int{b, a}))
			}
		}
	}
	return all
}

// P13.2 to P13.6, P13.8: whoever is ahead of whom, all is told as the chapter defines it; ErrClash where all cannot be so.
func TestWhoeverIsAhead(t *testing.T) {
	r := rand.New(rand.NewSource(1301))
	clashes, doubts := 0, 0
	for pairs := range api.CountPairs {
		for _, ahead := range duels(pairs + 1) {
			p := filled(r, drawn(pairs+1, ahead...))
			all, can := closed(pairs+1, ahead)
			if !can {
				clashes++
				refusedAll(t, p, api.ErrClash)
				continue
			}
			want, x := expected(p, all), tell(p)
			if x != want {
				t.Fatalf("%+v:\n%+v\n%+v", p, x, want)
			}
			if want.ask[0].result[1] > 0 {
				doubts++
			}
		}
	}
	if clashes < 100 || doubts < 50 {
		t.Error("too few of a kind for a test", clashes, doubts)
	}
}

// P13.2 to P13.6, P13.8: the same for boards with laps and points.
func TestRaced(t *testing.T) {
	r := rand.New(rand.NewSource(1302))
	found := 0
	for range 60 {
		p, _, _ := randomRaced(r)
		ahead := lines(p.Board)
		if want, x := expected(p, ahead), tell(p); x != want {
			t.Fatalf("%+v:\n%+v\n%+v", p, x, want)
		}
		if many := len(finals(p.Board.Count.Pairs, ahead...)); many > 1 && len(ahead) > 0 {
			found++
		}
	}
	if found < 20 {
		t.Error("too few are in doubt for a test", found)
	}
}

// P13.1: coins are split as the chapter defines it, by all hours that are few, and by any others.
func TestSplitByHours(t *testing.T) {
	r := rand.New(rand.NewSource(1303))
	for number := range 1 << 10 {
		hours := list(number&3, number>>2&3, number>>4&3, number>>6&3, number>>8&3)[:number%6]
		for coins := range 12 {
			if x, want := coinsOf(purse.Split(coins, hours)), coinsSo(divided(coins, hours)...); x != want {
				t.Error(coins, hours, x, want)
			}
		}
	}
	for range 2000 {
		coins, hours := r.Intn(api.PurseCoins+1), randomHours(r, r.Intn(api.PurseShares+1))
		if x, want := coinsOf(purse.Split(coins, hours)), coinsSo(divided(coins, hours)...); x != want {
			t.Error(coins, hours, x, want)
		}
	}
}

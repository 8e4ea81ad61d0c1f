package purse_test

import (
	"fmt"
	"math/rand"
	"slices"

	"lapworks/api"
	"lapworks/purse"
)

func span(lo, hi int) api.Span { return api.Span{Lo: lo, Hi: hi} }

// list returns what is written as a list.
func list[T any](all ...T) []T { return all }

// has returns whether a pair is in a set.
func has(set, pair int) bool { return set>>pair&1 == 1 }

// total returns how much some numbers are together.
func total(all []int) int {
	sum := 0
	for _, n := range all {
		sum += n
	}
	return sum
}

// perms returns all lists of so many pairs, each once, the lexicographically first one first.
func perms(pairs int) [][]int {
	all := [][]int{nil}
	for range pairs {
		var longer [][]int
		for _, l := range all {
			for pair := range pairs {
				if !slices.Contains(l, pair) {
					longer = append(longer, append(slices.Clone(l), pair))
				}
			}
		}
		all = longer
	}
	return all
}

// drawn returns a board of so many pairs, of whom just such surely are ahead of others, and who is so by these.
func drawn(pairs int, ahead ...[2]int) api.Board {
	return api.Board{
		Count:   api.Count{Pairs: pairs, Sheets: list([]int{})},
		Sprints: api.Sprints{Pairs: pairs, Points: list(4, 3, 2, 1), List: list(api.Sprint{Ahead: ahead})},
	}
}

// exampleB is the board of the chapter's example.
func exampleB() api.Board {
	return api.Board{
		Count:   api.Count{Pairs: 3, Sheets: list(list(0, 1, 2), list(0, 2, 2))},
		Sprints: api.Sprints{Pairs: 3, Points: list(3, 1), List: list(api.Sprint{Ahead: list([2]int{0, 1})})},
	}
}

// of returns a purse.
func of(b api.Board, prizes []int, led int, hours ...int) api.Purse {
	return api.Purse{Board: b, Prizes: prizes, Led: led, Hours: hours}
}

// exampleP is the purse of the chapter's example.
func exampleP() api.Purse { return of(exampleB(), list(100, 60, 30), 10, 5, 0, 2) }

// copied returns the same purse in memory of its own.
func copied(p api.Purse) api.Purse {
	p.Prizes, p.Hours = slices.Clone(p.Prizes), slices.Clone(p.Hours)
	c, s := &p.Board.Count, &p.Board.Sprints
	c.Sheets, s.Points, s.List = slices.Clone(c.Sheets), slices.Clone(s.Points), slices.Clone(s.List)
	for i, sheet := range c.Sheets {
		c.Sheets[i] = slices.Clone(sheet)
	}
	for i, one := range s.List {
		s.List[i].Ahead, s.List[i].Places = slices.Clone(one.Ahead), slices.Clone(one.Places)
	}
	return p
}

// changed returns a purse with something changed in it.
func changed(p api.Purse, change func(p *api.Purse)) api.Purse {
	p = copied(p)
	change(&p)
	return p
}

// seen returns a purse with one thing more seen of its last sprint.
func seen(p api.Purse, first, second int) api.Purse {
	return changed(p, func(p *api.Purse) {
		s := p.Board.Sprints.List
		s[len(s)-1].Ahead = append(s[len(s)-1].Ahead, [2]int{first, second})
	})
}

// equal returns whether purses are the same.
func equal(p, other api.Purse) bool { return fmt.Sprint(p) == fmt.Sprint(other) }

// randomPrizes returns prizes, of which often some are the same.
func randomPrizes(r *rand.Rand) []int {
	prizes := make([]int, r.Intn(api.PursePlaces+1))
	most := list(4, 100, api.PurseCoins)[r.Intn(3)]
	for i := range prizes {
		prizes[i] = r.Intn(most + 1)
	}
	slices.Sort(prizes)
	slices.Reverse(prizes)
	return prizes
}

// randomHours returns how many hours so many led: few, so that several led as many, or many, and sometimes none.
func randomHours(r *rand.Rand, number int) []int {
	hours := make([]int, number)
	most := list(0, 1, 4, 12, api.PurseHours, api.PurseHours)[r.Intn(6)]
	for i := range hours {
		hours[i] = r.Intn(most + 1)
	}
	return hours
}

// filled returns a purse with such a board and random prizes and hours.
func filled(r *rand.Rand, b api.Board) api.Purse {
	return of(b, randomPrizes(r), r.Intn(list(10, 200, api.PurseCoins)[r.Intn(3)]+1), randomHours(r, b.Count.Pairs)...)
}

// randomLines returns who is ahead of whom, so that there is an order in which all of it is so.
func randomLines(r *rand.Rand, order []int) [][2]int {
	var all [][2]int
	for i, first := range order {
		for _, second := range order[i+1:] {
			if r.Intn(3) == 0 {
				all = append(all, [2]int{first, second})
			}
		}
	}
	return all
}

// randomDrawn returns a purse, mostly of four pairs, of whom some are known to be ahead of others.
func randomDrawn(r *rand.Rand) api.Purse {
	pairs := min(api.CountPairs, 1+r.Intn(8))
	return filled(r, drawn(pairs, randomLines(r, r.Perm(pairs))...))
}

// randomRaced returns a purse of which what counters wrote and what was seen of sprints can all be so. In the first of its sprints the pairs have ended in the first one of the orders, and so on.
func randomRaced(r *rand.Rand) (p api.Purse, race []int, orders [][]int) {
	pairs := 2 + r.Intn(api.CountPairs-1)
	for range r.Intn(api.CountPassings + 1) {
		race = append(race, r.Intn(pairs))
	}
	b := api.Board{Count: api.Count{Pairs: pairs, Sheets: list(slices.Clone(race))}, Sprints: api.Sprints{Pairs: pairs, Points: list(5, 3, 1, 0)[:1+r.Intn(4)]}}
	if other := slices.Clone(race); len(other) > 0 && r.Intn(2) == 0 {
		other[r.Intn(len(other))] = r.Intn(pairs)
		b.Count.Sheets = append(b.Count.Sheets, other)
	}
	for range r.Intn(3) {
		order := r.Perm(pairs)
		orders = append(orders, order)
		b.Sprints.List = append(b.Sprints.List, api.Sprint{Ahead: randomLines(r, order), Double: r.Intn(3) == 0})
	}
	return filled(r, b), race, orders
}

// outcome is a result with its error.
type outcome[T any] struct {
	result T
	e      api.Errno
}

// so returns a result without an error.
func so[T any](result T) outcome[T] { return outcome[T]{result, api.OK} }

// resultOf returns a result and its error as one thing.
func resultOf[T any](result T, e api.Errno) outcome[T] { return outcome[T]{result, e} }

// bothOf returns two numbers and their error as one thing.
func bothOf(one, two int, e api.Errno) outcome[[2]int] { return outcome[[2]int]{[2]int{one, two}, e} }

// coinsOf returns a list of coins, written out, and its error as one thing.
func coinsOf(coins []int, e api.Errno) outcome[string] { return resultOf(fmt.Sprint(coins), e) }

// advanceOf returns what can be paid and what is held back, written out, and their error as one thing.
func advanceOf(coins []int, held int, e api.Errno) outcome[string] {
	return resultOf(fmt.Sprint(coins, held), e)
}

// coinsSo returns coins without an error as one thing.
func coinsSo(coins ...int) outcome[string] { return coinsOf(coins, api.OK) }

// told is all that is told of a purse.
type told struct {
	places, due [api.CountPairs]outcome[api.Span]
	group       [1 << api.CountPairs]outcome[api.Span]
	advance     outcome[string]
	exact       string
	ask         [api.CountPairs]outcome[[2]int]
}

// tell returns all that is told of a purse.
func tell(p api.Purse) told {
	x := told{advance: advanceOf(purse.Advance(p))}
	for pair := range x.places {
		x.places[pair], x.due[pair], x.ask[pair] = resultOf(purse.Places(p, pair)), resultOf(purse.Due(p, pair)), bothOf(purse.Ask(p, pair))
	}
	for set := range x.group {
		x.group[set] = resultOf(purse.Group(p, set))
	}
	for _, order := range perms(min(p.Board.Count.Pairs, api.CountPairs)) {
		x.exact += fmt.Sprint(coinsOf(purse.Exact(p, order)))
	}
	return x
}

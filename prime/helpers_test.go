package prime_test

import (
	"fmt"
	"math/rand"
	"slices"
	"testing"

	"lapworks/api"
	"lapworks/prime"
)

func span(lo, hi int) api.Span { return api.Span{Lo: lo, Hi: hi} }

// list returns what is written as a list.
func list[T any](all ...T) []T { return all }

func placed(pair, lo, hi int) api.SprintPlace {
	return api.SprintPlace{Pair: pair, Place: span(lo, hi)}
}

// seen returns a sprint in which pairs were seen ahead of others, and on places.
func seen(ahead [][2]int, places ...api.SprintPlace) api.Sprint {
	return api.Sprint{Ahead: ahead, Places: places}
}

// ended returns a sprint of which the order is known.
func ended(order ...int) api.Sprint {
	var s api.Sprint
	for place, pair := range order {
		s.Places = append(s.Places, placed(pair, place, place))
	}
	return s
}

// cycle returns a sprint that cannot have ended in any order.
func cycle() api.Sprint { return seen(list([2]int{0, 1}, [2]int{1, 0})) }

// onPlace, byPair and shared return primes of the three kinds. Those without a pair have one that is none.
func onPlace(sprint, place, coins int) api.Prime {
	return api.Prime{Sprint: sprint, Kind: api.PrimePlace, Coins: coins, Place: place, Pair: -1}
}

func byPair(sprint, pair, place, coins int) api.Prime {
	return api.Prime{Sprint: sprint, Kind: api.PrimeIf, Coins: coins, Place: place, Pair: pair}
}

func shared(sprint, place, coins int) api.Prime {
	return api.Prime{Sprint: sprint, Kind: api.PrimeShare, Coins: coins, Place: place, Pair: 99}
}

// of returns primes of so many pairs.
func of(pairs int, sprints []api.Sprint, all ...api.Prime) api.Primes {
	return api.Primes{Sprints: api.Sprints{Pairs: pairs, Points: list(5, 3, 2), List: sprints}, List: all}
}

// exampleP is the primes of the chapter's examples.
func exampleP() api.Primes {
	last := seen(list([2]int{3, 0}), placed(0, 3, 3))
	last.Double = true
	return of(4, list(seen(list([2]int{0, 1}, [2]int{2, 3}), placed(1, 1, 2)), last),
		byPair(0, 0, 0, 10), onPlace(0, 0, 5), shared(1, 1, 7))
}

// copied returns the same primes in memory of their own.
func copied(p api.Primes) api.Primes {
	p.Sprints.Points, p.Sprints.List, p.List = slices.Clone(p.Sprints.Points), slices.Clone(p.Sprints.List), slices.Clone(p.List)
	for i, s := range p.Sprints.List {
		p.Sprints.List[i].Ahead, p.Sprints.List[i].Places = slices.Clone(s.Ahead), slices.Clone(s.Places)
	}
	return p
}

// changed returns primes with something changed in them.
func changed(p api.Primes, change func(p *api.Primes)) api.Primes {
	p = copied(p)
	change(&p)
	return p
}

// equal returns whether primes are the same.
func equal(a, b api.Primes) bool {
	return a.Sprints.Pairs == b.Sprints.Pairs && slices.Equal(a.Sprints.Points, b.Sprints.Points) && slices.Equal(a.List, b.List) &&
		slices.EqualFunc(a.Sprints.List, b.Sprints.List, func(a, b api.Sprint) bool {
			return slices.Equal(a.Ahead, b.Ahead) && slices.Equal(a.Places, b.Places) && a.Double == b.Double
		})
}

// randomPrimes returns so many primes of so many sprints, in order.
func randomPrimes(r *rand.Rand, pairs, sprints, primes int) []api.Prime {
	var all []api.Prime
	for range primes {
		p := api.Prime{Sprint: r.Intn(sprints), Kind: r.Intn(3), Coins: r.Intn(20), Place: r.Intn(pairs), Pair: r.Intn(pairs)}
		switch r.Intn(6) {
		case 0:
			p.Coins = 0
		case 1:
			p.Coins = r.Intn(api.PrimeCoins + 1)
		}
		all = append(all, p)
	}
	slices.SortStableFunc(all, func(a, b api.Prime) int { return a.Sprint - b.Sprint })
	return all
}

// see adds to a sprint something that is right if it ends in an order, if there is room for it.
func see(r *rand.Rand, s *api.Sprint, order []int) {
	if len(order) > 1 && r.Intn(2) == 0 && len(s.Ahead) < api.SprintAhead {
		first := r.Intn(len(order) - 1)
		second := first + 1 + r.Intn(len(order)-first-1)
		s.Ahead = append(s.Ahead, [2]int{order[first], order[second]})
		return
	}
	if len(s.Places) < api.SprintPlaces {
		place := r.Intn(len(order))
		s.Places = append(s.Places, placed(order[place], max(0, place-r.Intn(3)), min(len(order)-1, place+r.Intn(3))))
	}
}

// random returns primes of so many pairs and sprints, in each of which at most so many things were seen, with orders in which these can have ended.
func random(r *rand.Rand, pairs, sprints, things int) (api.Primes, [][]int) {
	var orders [][]int
	var all []api.Sprint
	for range sprints {
		s, order := api.Sprint{Double: r.Intn(2) == 0}, r.Perm(pairs)
		for range r.Intn(things + 1) {
			see(r, &s, order)
		}
		all, orders = append(all, s), append(orders, order)
	}
	if sprints == 0 {
		return of(pairs, nil), nil
	}
	return of(pairs, all, randomPrimes(r, pairs, sprints, r.Intn(api.PrimeList+1))...), orders
}

// large returns primes that can have as much of all as there can be, with orders in which their sprints can have ended.
func large(r *rand.Rand, things int) (api.Primes, [][]int) {
	return random(r, 2+r.Intn(api.SprintPairs-1), 1+r.Intn(api.SprintList), things)
}

// coinsOf returns how many coins all primes have together.
func coinsOf(p api.Primes) int {
	all := 0
	for _, x := range p.List {
		all += x.Coins
	}
	return all
}

// outcome is a result with its error.
type outcome[T any] struct {
	result T
	e      api.Errno
}

// so returns a result without an error.
func so[T any](result T) outcome[T] { return outcome[T]{result, api.OK} }

// resultOf returns a result and its error as one thing.
func resultOf[T any](result T, e api.Errno) outcome[T] { return outcome[T]{result, e} }

// bothOf returns two results and their error as one thing.
func bothOf(one, two int, e api.Errno) outcome[[2]int] { return outcome[[2]int]{[2]int{one, two}, e} }

// billOf returns what is due, written out, and its error as one thing.
func billOf(due []int, back int, e api.Errno) outcome[string] {
	return resultOf(fmt.Sprint(due, back), e)
}

// exactly returns what is due by orders that have to be such.
func exactly(t *testing.T, p api.Primes, orders [][]int) (due []int, back int) {
	t.Helper()
	due, back, e := prime.Exact(p, orders)
	if e != api.OK || len(due) != p.Sprints.Pairs {
		t.Fatalf("Exact %+v %v: %v %v %v", p, orders, due, back, e)
	}
	return due, back
}

// told is all that is told of primes whose orders are not known.
type told struct {
	due  [api.SprintPairs]outcome[api.Span]
	look [api.SprintPairs]outcome[[2]int]
	back outcome[api.Span]
	pays [api.PrimeList]outcome[api.Span]
	who  [api.PrimeList]outcome[[2]int]
}

// ask returns all that is told of primes whose orders are not known.
func ask(p api.Primes) told {
	a := told{back: resultOf(prime.Back(p))}
	for pair := range min(p.Sprints.Pairs, api.SprintPairs) {
		a.due[pair], a.look[pair] = resultOf(prime.Due(p, pair)), bothOf(prime.Look(p, pair))
	}
	for i := range min(len(p.List), api.PrimeList) {
		a.pays[i], a.who[i] = resultOf(prime.Pays(p, i)), bothOf(prime.Who(p, i))
	}
	return a
}

// within returns whether a number is in a span.
func within(n int, s api.Span) bool { return s.Lo <= n && n <= s.Hi }

// inside returns whether all of one span is in another one.
func inside(s, of api.Span) bool { return s.Lo >= of.Lo && s.Hi <= of.Hi }

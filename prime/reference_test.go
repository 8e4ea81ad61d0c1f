package prime_test

import (
	"math/rand"
	"slices"
	"testing"

	"lapworks/api"
)

// lists returns all lists of so many pairs, each once.
func lists(pairs int) [][]int {
	if pairs == 0 {
		return list([]int{})
	}
	var all [][]int
	for _, shorter := range lists(pairs - 1) {
		for i := range pairs {
			all = append(all, slices.Insert(slices.Clone(shorter), i, pairs-1))
		}
	}
	return all
}

// couldEnd returns whether a sprint can have ended in an order.
func couldEnd(s api.Sprint, order []int) bool {
	for _, a := range s.Ahead {
		if slices.Index(order, a[0]) > slices.Index(order, a[1]) {
			return false
		}
	}
	for _, p := range s.Places {
		if !within(slices.Index(order, p.Pair), p.Place) {
			return false
		}
	}
	return true
}

// coins is how many coins each prime pays to each pair, and how many go back.
type coins struct {
	paid [api.PrimeList][api.SprintPairs]int
	back int
}

// payOut pays out primes by orders, as the chapter says it.
func payOut(p api.Primes, orders [][]int) coins {
	var c coins
	for i, x := range p.List {
		purse := x.Coins + c.back
		c.back = 0
		order := orders[x.Sprint]
		switch x.Kind {
		case api.PrimePlace:
			c.paid[i][order[x.Place]] = purse
		case api.PrimeIf:
			if slices.Index(order, x.Pair) <= x.Place {
				c.paid[i][x.Pair] = purse
			} else {
				c.back = purse
			}
		case api.PrimeShare:
			for place := 0; place <= x.Place; place++ {
				c.paid[i][order[place]] = purse / (x.Place + 1)
			}
			c.back = purse % (x.Place + 1)
		}
	}
	return c
}

// due returns how many coins are due to a pair.
func (c coins) due(pair int) int {
	all := 0
	for _, paid := range c.paid {
		all += paid[pair]
	}
	return all
}

// pays returns how many coins a prime pays.
func (c coins) pays(number int) int {
	all := 0
	for _, n := range c.paid[number] {
		all += n
	}
	return all
}

// bounds is the span of the numbers that have come so far.
type bounds struct {
	some bool
	api.Span
}

// add lets one more number come.
func (b *bounds) add(n int) {
	if !b.some {
		*b = bounds{true, span(n, n)}
	}
	b.Span = span(min(b.Lo, n), max(b.Hi, n))
}

// found is what has been found in the truths so far; known is, of each order of each sprint, what is due to each pair if it is known.
type found struct {
	truths int
	due    [api.SprintPairs]bounds
	back   bounds
	pays   [api.PrimeList]bounds
	coins  [api.PrimeList][api.SprintPairs]bounds
	known  [][][api.SprintPairs]bounds
}

// add adds a truth, of which it is told which of its orders each sprint has.
func (f *found) add(p api.Primes, c coins, chosen []int) {
	f.truths++
	f.back.add(c.back)
	for pair := range p.Sprints.Pairs {
		due := c.due(pair)
		f.due[pair].add(due)
		for sprint, i := range chosen {
			f.known[sprint][i][pair].add(due)
		}
		for number := range p.List {
			f.coins[number][pair].add(c.paid[number][pair])
		}
	}
	for number := range p.List {
		f.pays[number].add(c.pays(number))
	}
}

// find goes through all truths of primes.
func find(p api.Primes) *found {
	f := &found{}
	all := lists(p.Sprints.Pairs)
	var can [][][]int
	for _, s := range p.Sprints.List {
		orders := slices.DeleteFunc(slices.Clone(all), func(order []int) bool { return !couldEnd(s, order) })
		can, f.known = append(can, orders), append(f.known, make([][api.SprintPairs]bounds, len(orders)))
	}
	var orders [][]int
	var chosen []int
	var choose func()
	choose = func() {
		at := len(chosen)
		if at == len(can) {
			f.add(p, payOut(p, orders), chosen)
			return
		}
		for i, order := range can[at] {
			orders, chosen = append(orders, order), append(chosen, i)
			choose()
			orders, chosen = orders[:at], chosen[:at]
		}
	}
	choose()
	return f
}

// look returns at which sprint to look for a pair, and how much is not known then.
func (f *found) look(pair int) outcome[[2]int] {
	best := outcome[[2]int]{e: api.ErrNone}
	for sprint, orders := range f.known {
		most := 0
		for _, known := range orders {
			most = max(most, known[pair].Hi-known[pair].Lo)
		}
		if best.e != api.OK || most < best.result[1] {
			best = so([2]int{sprint, most})
		}
	}
	return best
}

// who returns the sets of the pairs that a prime pays in some truth, and in each.
func (f *found) who(number int) [2]int {
	var sets [2]int
	for pair, b := range f.coins[number] {
		if b.Hi > 0 {
			sets[0] |= 1 << pair
		}
		if b.Lo > 0 {
			sets[1] |= 1 << pair
		}
	}
	return sets
}

// expected returns all that has to be told of primes.
func expected(p api.Primes) told {
	f := find(p)
	var a told
	if f.truths == 0 {
		return refused(p, api.ErrClash)
	}
	a.back = so(f.back.Span)
	for pair := range p.Sprints.Pairs {
		a.due[pair], a.look[pair] = so(f.due[pair].Span), f.look(pair)
	}
	for number := range p.List {
		a.pays[number], a.who[number] = so(f.pays[number].Span), so(f.who(number))
	}
	return a
}

// refused returns what is told of primes if all is refused with an error.
func refused(p api.Primes, e api.Errno) told {
	a := told{back: outcome[api.Span]{e: e}}
	for pair := range min(p.Sprints.Pairs, api.SprintPairs) {
		a.due[pair].e, a.look[pair].e = e, e
	}
	for number := range min(len(p.List), api.PrimeList) {
		a.pays[number].e, a.who[number].e = e, e
	}
	return a
}

// checked tests what is told of primes against all truths.
func checked(t *testing.T, p api.Primes) {
	t.Helper()
	if a, want := ask(p), expected(p); a != want {
		t.Errorf("%+v\ntold     %+v\nexpected %+v", p, a, want)
	}
}

// P9.1, P9.2, P9.3, P9.5, P9.7, P2 of the document: both ends of each span, and each set, are those of all truths.
func TestAgainstTruths(t *testing.T) {
	r := rand.New(rand.NewSource(91))
	for i := range 1200 {
		pairs := 1 + i%4
		p, _ := random(r, pairs, i/4%4, 3+i%5)
		if i%9 == 0 && pairs > 1 && len(p.Sprints.List) > 0 {
			p.Sprints.List[r.Intn(len(p.Sprints.List))] = cycle()
		}
		checked(t, p)
	}
}

// P9.1 to P9.5, R7: as many pairs, and as many sprints, as there can be.
func TestMany(t *testing.T) {
	r := rand.New(rand.NewSource(92))
	for i := range 40 {
		p, _ := random(r, 5+i%2, 1, i%8)
		checked(t, p)
	}
	for range 40 {
		p, _ := random(r, 2+r.Intn(2), api.SprintList, 4)
		checked(t, p)
	}
	for range 20 {
		p, orders := random(r, api.SprintPairs, api.SprintList, 0)
		for i, order := range orders {
			// Of each sprint all is known but the order of some neighbours.
			for place, pair := range order {
				p.Sprints.List[i].Places = append(p.Sprints.List[i].Places, placed(pair, max(0, place-place%2), min(5, place+1-place%2)))
			}
		}
		checked(t, p)
	}
}

// kinds returns lists of so many primes of one sprint, of all kinds, places and pairs.
func kinds(pairs, primes int) [][]api.Prime {
	all := list([]api.Prime{})
	for i := range primes {
		var longer [][]api.Prime
		for _, some := range all {
			for place := range pairs {
				next := list(onPlace(0, place, 3+4*i), shared(0, place, 5+2*i))
				for pair := range pairs {
					next = append(next, byPair(0, pair, place, 4+i))
				}
				for _, x := range next {
					longer = append(longer, append(slices.Clone(some), x))
				}
			}
		}
		all = longer
	}
	return all
}

// P9.1, P9.2, P9.3, P9.5: all primes of each kind, one behind the other, whatever is known of the sprint.
func TestEachKind(t *testing.T) {
	for _, primes := range kinds(3, 2) {
		for _, s := range list(api.Sprint{}, seen(list([2]int{2, 0})), ended(1, 2, 0)) {
			checked(t, of(3, list(s), primes...))
		}
	}
	for _, primes := range kinds(2, 3) {
		primes[1].Sprint, primes[2].Sprint = 1, 1
		checked(t, of(2, free(2), primes...))
	}
}

// P9.4: what is due by orders, of all orders.
func TestExactAgainstChapter(t *testing.T) {
	r := rand.New(rand.NewSource(93))
	for range 600 {
		p, _ := large(r, 4)
		var orders [][]int
		for range p.Sprints.List {
			orders = append(orders, r.Perm(p.Sprints.Pairs))
		}
		c := payOut(p, orders)
		due, back := exactly(t, p, orders)
		for pair, n := range due {
			if n != c.due(pair) {
				t.Error("due", p, orders, pair, n, c.due(pair))
			}
		}
		if back != c.back {
			t.Error("back", p, orders, back, c.back)
		}
	}
}

package prime_test

import (
	"math/rand"
	"slices"
	"testing"

	"lapworks/api"
	"lapworks/prime"
)

// upTo returns primes with so many of the list alone.
func upTo(p api.Primes, primes int) api.Primes {
	return changed(p, func(p *api.Primes) { p.List = p.List[:primes] })
}

// P9.7, P2 of the document: whatever truly was, if it was seen rightly, is within what is told.
func TestWhatIsTrue(t *testing.T) {
	r := rand.New(rand.NewSource(71))
	sure := 0
	for range 200 {
		p, orders := large(r, 12)
		a := ask(p)
		due, back := exactly(t, p, orders)
		if a.back.e != api.OK || !within(back, a.back.result) {
			t.Error("Back", p, orders, a.back, back)
		}
		for pair, n := range due {
			if a.due[pair].e != api.OK || !within(n, a.due[pair].result) {
				t.Error("Due", p, orders, pair, a.due[pair], n)
			}
		}
		before := make([]int, p.Sprints.Pairs)
		for number := range p.List {
			// What a prime pays does not depend on those behind it.
			now, _ := exactly(t, upTo(p, number+1), orders)
			all, set := 0, 0
			for pair, n := range now {
				all += n - before[pair]
				if n > before[pair] {
					set |= 1 << pair
				}
			}
			before = now
			who := a.who[number]
			if who.e != api.OK || set&^who.result[0] != 0 || who.result[1]&^set != 0 {
				t.Error("Who", p, orders, number, who, set)
			}
			if a.pays[number].e != api.OK || !within(all, a.pays[number].result) {
				t.Error("Pays", p, orders, number, a.pays[number], all)
			}
			if who.result[1] != 0 {
				sure++
			}
		}
		if !slices.Equal(before, due) {
			t.Error("Exact", p, orders, before, due)
		}
	}
	if sure < 200 {
		t.Error("too few are surely paid for a test", sure)
	}
}

// P9.6, P9 of the document: all that is due, and what goes back, is all coins, and nobody is due less than nothing.
func TestToTheLastCoin(t *testing.T) {
	r := rand.New(rand.NewSource(72))
	back := 0
	for range 500 {
		p, orders := large(r, 4)
		for i := range orders {
			orders[i] = r.Perm(p.Sprints.Pairs)
		}
		due, left := exactly(t, p, orders)
		all := left
		for _, n := range due {
			all += n
		}
		if all != coinsOf(p) || left < 0 || slices.Min(due) < 0 {
			t.Error(p, orders, due, left, coinsOf(p))
		}
		if left > 0 {
			back++
		}
	}
	if back < 100 {
		t.Error("too seldom anything goes back for a test", back)
	}
}

// P9.6: what is told of all truths adds up, too: the least of all numbers together is no more than all coins, and the greatest no less.
func TestSpansAddUp(t *testing.T) {
	r := rand.New(rand.NewSource(73))
	for range 150 {
		p, _ := large(r, 8)
		a := ask(p)
		least, most, paid := a.back.result.Lo, a.back.result.Hi, span(0, 0)
		for _, due := range a.due[:p.Sprints.Pairs] {
			least, most = least+due.result.Lo, most+due.result.Hi
			if due.result.Lo < 0 {
				t.Error(p, due)
			}
		}
		for i, pays := range a.pays[:len(p.List)] {
			paid = span(paid.Lo+pays.result.Lo, paid.Hi+pays.result.Hi)
			// Coins that are paid are paid to somebody.
			if (a.who[i].result[0] != 0) != (pays.result.Hi > 0) || a.who[i].result[1] != 0 && pays.result.Lo == 0 {
				t.Error(p, i, pays, a.who[i])
			}
		}
		all := coinsOf(p)
		if least > all || most < all || paid.Lo > all-a.back.result.Lo || paid.Hi < all-a.back.result.Hi {
			t.Errorf("%+v %+v %v %v %v", p, a, least, most, paid)
		}
	}
}

// sharper returns whether nothing is told less exactly than before.
func (a told) sharper(before told) bool {
	if !inside(a.back.result, before.back.result) {
		return false
	}
	for pair, due := range a.due {
		if !inside(due.result, before.due[pair].result) || a.look[pair].result[1] > before.look[pair].result[1] {
			return false
		}
	}
	for i, who := range a.who {
		if !inside(a.pays[i].result, before.pays[i].result) || who.result[0]&^before.who[i].result[0] != 0 || before.who[i].result[1]&^who.result[1] != 0 {
			return false
		}
	}
	return true
}

// P9.7, P2 of the document: with more that was seen of a sprint nothing is told less exactly, unless there is no truth then.
func TestMore(t *testing.T) {
	r := rand.New(rand.NewSource(74))
	better, none := 0, 0
	for i := range 300 {
		p, orders := large(r, 4)
		more := changed(p, func(p *api.Primes) {
			at := r.Intn(len(orders))
			order := orders[at]
			if i%4 == 0 {
				order = r.Perm(p.Sprints.Pairs)
			}
			see(r, &p.Sprints.List[at], order)
		})
		a, b := ask(p), ask(more)
		switch {
		case b.back.e == api.ErrClash && i%4 == 0:
			none++
		case a.back.e != api.OK || b.back.e != api.OK || !b.sharper(a):
			t.Errorf("%+v\n%+v\n%+v\n%+v", p, more, a, b)
		case a != b:
			better++
		}
	}
	if better < 50 || none < 5 {
		t.Error("too few of a kind for a test", better, none)
	}
}

// renumbered returns primes whose pairs have other numbers.
func renumbered(p api.Primes, number []int) api.Primes {
	return changed(p, func(p *api.Primes) {
		for _, s := range p.Sprints.List {
			for i, a := range s.Ahead {
				s.Ahead[i] = [2]int{number[a[0]], number[a[1]]}
			}
			for i, x := range s.Places {
				s.Places[i].Pair = number[x.Pair]
			}
		}
		for i, x := range p.List {
			p.List[i].Pair = number[x.Pair]
		}
	})
}

// numberedSet returns a set of pairs by their other numbers.
func numberedSet(set int, number []int) int {
	other := 0
	for pair, n := range number {
		other |= set >> pair & 1 << n
	}
	return other
}

// P9.7, P11 of the document: if pairs are numbered otherwise only their numbers change.
func TestOtherNumbers(t *testing.T) {
	r := rand.New(rand.NewSource(75))
	for range 150 {
		p, orders := large(r, 8)
		number := r.Perm(p.Sprints.Pairs)
		q := renumbered(p, number)
		a, b := ask(p), ask(q)
		want := told{back: a.back, pays: a.pays}
		for pair, n := range number {
			want.due[n], want.look[n] = a.due[pair], a.look[pair]
		}
		for i, who := range a.who {
			want.who[i] = outcome[[2]int]{[2]int{numberedSet(who.result[0], number), numberedSet(who.result[1], number)}, who.e}
		}
		if b != want {
			t.Errorf("%+v %v\n%+v\n%+v", p, number, b, want)
		}
		due, back := exactly(t, p, orders)
		other := slices.Clone(orders)
		for i, order := range orders {
			other[i] = nil
			for _, pair := range order {
				other[i] = append(other[i], number[pair])
			}
		}
		due2, back2 := exactly(t, q, other)
		for pair, n := range number {
			if due2[n] != due[pair] || back2 != back {
				t.Error("Exact", p, number, due, back, due2, back2)
			}
		}
	}
}

// emptied returns what is told without what is told of the prime of a number.
func (a told) emptied(number int) told {
	copy(a.pays[number:], a.pays[number+1:])
	copy(a.who[number:], a.who[number+1:])
	a.pays[api.PrimeList-1], a.who[api.PrimeList-1] = outcome[api.Span]{}, outcome[[2]int]{}
	return a
}

// P9.7: a prime of no coins, if nothing can be left before it, changes nothing.
func TestNoCoins(t *testing.T) {
	r := rand.New(rand.NewSource(76))
	inner := 0
	for range 400 {
		p, _ := large(r, 6)
		p.List = p.List[:min(len(p.List), api.PrimeList-1)]
		at := r.Intn(len(p.List) + 1)
		if left := resultOf(prime.Back(upTo(p, at))); left != so(span(0, 0)) {
			continue
		}
		lo, hi := 0, len(p.Sprints.List)-1
		if at > 0 {
			lo = p.List[at-1].Sprint
		}
		if at < len(p.List) {
			hi = p.List[at].Sprint
		}
		nothing := api.Prime{Sprint: lo + r.Intn(hi-lo+1), Kind: r.Intn(3), Place: r.Intn(p.Sprints.Pairs), Pair: r.Intn(p.Sprints.Pairs)}
		q := changed(p, func(p *api.Primes) { p.List = slices.Insert(p.List, at, nothing) })
		a, b := ask(p), ask(q)
		if b.pays[at] != so(span(0, 0)) || b.who[at] != so([2]int{0, 0}) || b.emptied(at) != a {
			t.Errorf("%+v\n%+v\n%+v\n%+v", p, q, a, b)
		}
		if at > 0 && at < len(p.List) {
			inner++
		}
	}
	if inner < 40 {
		t.Error("too few are among others for a test", inner)
	}
}

// pinned returns primes of which it is known that a sprint ended in an order.
func pinned(p api.Primes, sprint int, order []int) api.Primes {
	return changed(p, func(p *api.Primes) { p.Sprints.List[sprint] = ended(order...) })
}

// P9.5: the number that is told of the sprint is that by which Due of the pair is not known at most if the order is, and no other sprint has less.
func TestLookTells(t *testing.T) {
	r := rand.New(rand.NewSource(77))
	for range 60 {
		p, _ := random(r, 2+r.Intn(4), 1+r.Intn(api.SprintList), 8)
		pair := r.Intn(p.Sprints.Pairs)
		best := bothOf(prime.Look(p, pair))
		want := outcome[[2]int]{e: api.ErrNone}
		for sprint, s := range p.Sprints.List {
			most := 0
			for _, order := range lists(p.Sprints.Pairs) {
				if couldEnd(s, order) {
					due := resultOf(prime.Due(pinned(p, sprint, order), pair))
					if due.e != api.OK {
						t.Error("Due", p, sprint, order, due)
					}
					most = max(most, due.result.Hi-due.result.Lo)
				}
			}
			if want.e != api.OK || most < want.result[1] {
				want = so([2]int{sprint, most})
			}
		}
		if best != want {
			t.Error(p, pair, best, want)
		}
	}
}

// P9.1, P9.4: if the order of each sprint is known, what is due is what is due by these orders.
func TestAllIsKnown(t *testing.T) {
	r := rand.New(rand.NewSource(78))
	for range 200 {
		p, orders := large(r, 0)
		due, back := exactly(t, p, orders)
		for i, order := range orders {
			p = pinned(p, i, order)
		}
		a := ask(p)
		if a.back != so(span(back, back)) {
			t.Error("Back", p, a.back, back)
		}
		for pair, n := range due {
			if a.due[pair] != so(span(n, n)) || a.look[pair] != so([2]int{0, 0}) {
				t.Error("Due", p, pair, a.due[pair], a.look[pair], n)
			}
		}
		for i, who := range a.who[:len(p.List)] {
			if who.result[0] != who.result[1] || a.pays[i].result.Lo != a.pays[i].result.Hi {
				t.Error("Who", p, i, who, a.pays[i])
			}
		}
	}
}

// P11 of the document: the order of what was seen makes no difference, nor do points, nor how often it is asked.
func TestNoDifference(t *testing.T) {
	r := rand.New(rand.NewSource(79))
	for range 60 {
		p, _ := large(r, 8)
		q := changed(p, func(p *api.Primes) {
			p.Sprints.Points = list(50, 50, 7)
			for i, s := range p.Sprints.List {
				p.Sprints.List[i].Double = !s.Double
				r.Shuffle(len(s.Ahead), func(i, j int) { s.Ahead[i], s.Ahead[j] = s.Ahead[j], s.Ahead[i] })
				r.Shuffle(len(s.Places), func(i, j int) { s.Places[i], s.Places[j] = s.Places[j], s.Places[i] })
			}
		})
		a := ask(p)
		if b := ask(q); a != b || ask(p) != a {
			t.Errorf("%+v\n%+v\n%+v\n%+v", p, q, a, b)
		}
	}
}

// P9.1 to P9.5, P1 of the document: if nothing was seen, and there are as many primes as there can be, all is told still.
func TestWidest(t *testing.T) {
	r := rand.New(rand.NewSource(80))
	for i := range 12 {
		p := of(api.SprintPairs, free(api.SprintList))
		p.List = randomPrimes(r, api.SprintPairs, 1+i%api.SprintList, api.PrimeList)
		for n := range p.List {
			if i%3 == 0 {
				p.List[n].Kind, p.List[n].Place = api.PrimePlace, n%6
			}
			p.List[n].Coins = 1 << (n % 8)
		}
		if a := ask(p); a.back.e != api.OK || a.look[5].e != api.OK || a.who[7].e != api.OK {
			t.Errorf("%+v %+v", p, a)
		}
	}
}

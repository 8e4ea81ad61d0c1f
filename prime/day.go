package prime

import "lapworks/api"

// way is a way in which a sprint can decide its primes: by the number of each of them, the set of the pairs that share its purse.
type way [api.PrimeList]int

// day is primes, and in which ways each sprint can decide its own.
type day struct {
	api.Primes
	ways [][]way
}

// dayOf returns the day of valid primes.
func dayOf(p api.Primes) day {
	d := day{Primes: p}
	for sprint := range p.Sprints.List {
		d.ways = append(d.ways, d.waysOf(sprint))
	}
	return d
}

// knownDay returns the day of valid primes whose sprints end in these orders.
func knownDay(p api.Primes, orders [][]int) day {
	d := day{Primes: p}
	for sprint, o := range orders {
		d.ways = append(d.ways, []way{d.wayOf(sprint, o)})
	}
	return d
}

// waysOf returns the ways in which a sprint can decide its primes, by all orders in which it can have ended.
func (d day) waysOf(sprint int) []way {
	var all []way
	known := map[way]bool{}
	for o := range ordersOf(d.Sprints.Pairs, d.Sprints.List[sprint]) {
		w := d.wayOf(sprint, o)
		// Many orders decide alike, and of these one is enough.
		if !known[w] {
			known[w] = true
			all = append(all, w)
		}
	}
	return all
}

// wayOf returns how a sprint decides its primes if it ends in an order.
func (d day) wayOf(sprint int, o order) way {
	var w way
	for number, prime := range d.List {
		if prime.Sprint == sprint {
			w[number] = prizeOf(prime).sharers(o)
		}
	}
	return w
}

// ends returns the ends of what is counted of all payments together, of all truths.
func (d day) ends(counted func(p payment) int) ends {
	return account{d, counted, map[state]ends{}}.from(state{})
}

// goesBack returns what counts the coins that go back: those that the last prime leaves.
func (d day) goesBack() func(p payment) int { return only(len(d.List)-1, payment.rest) }

// state is how many coins are left when a sprint is paid out.
type state struct{ sprint, left int }

// account is a day of which something is counted, with what has been found.
type account struct {
	day
	counted func(p payment) int
	known   map[state]ends
}

// from returns the ends of what is counted from a state on.
func (a account) from(s state) ends {
	if s.sprint == len(a.ways) {
		return ends{}
	}
	found, known := a.known[s]
	if known {
		return found
	}
	var all []ends
	for _, w := range a.ways[s.sprint] {
		n, next := a.paid(s, w)
		later := a.from(next)
		all = append(all, later.plus(n))
	}
	found = joined(ends.with, all)
	a.known[s] = found
	return found
}

// paid returns what is counted of the primes of a sprint if it decides them in a way, and the state after it.
func (a account) paid(s state, w way) (counted int, next state) {
	next = state{s.sprint + 1, s.left}
	for number, prime := range a.List {
		if prime.Sprint == s.sprint {
			p := pay(number, prime.Coins+next.left, w[number])
			counted += a.counted(p)
			next.left = p.left
		}
	}
	return counted, next
}

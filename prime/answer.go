package prime

import (
	"lapworks/api"
	"lapworks/sprint"
)

// told returns what is told of a day of primes, if these are valid, what else is asked for is in its range, and there is a truth.
func told[T any](p api.Primes, inRange bool, tell func(d day) T) (T, api.Errno) {
	return answer(func() T {
		seen := examine(p)
		require(inRange, api.ErrRange)
		require(seen == api.OK, seen)
		return tell(dayOf(p))
	})
}

// answer returns what ask finds, or the error with which it gave up.
func answer[T any](ask func() T) (found T, e api.Errno) {
	defer func() {
		switch cause := recover().(type) {
		case nil:
		case api.Errno:
			e = cause
		default:
			// Only require is meant to panic; if anything else does, the argument led to it.
			e = api.ErrArg
		}
	}()
	return ask(), api.OK
}

// require gives up with an error unless all is well.
func require(well bool, e api.Errno) {
	if !well {
		panic(e)
	}
}

// examine requires that primes are valid, and returns the error of their sprints if these have no truth.
func examine(p api.Primes) api.Errno {
	// Valid sprints have a pair 0, so that of all that can be asked of them this always is in its range.
	_, seen := sprint.Points(p.Sprints, 0)
	require(seen != api.ErrArg && validList(p), api.ErrArg)
	return seen
}

// validList returns whether the list of primes of valid sprints is valid.
func validList(p api.Primes) bool {
	if len(p.List) > api.PrimeList {
		return false
	}
	earliest := 0
	for _, prime := range p.List {
		if prime.Sprint < earliest || !validPrime(p, prime) {
			return false
		}
		earliest = prime.Sprint
	}
	return true
}

// validPrime returns whether a prime is valid by itself.
func validPrime(p api.Primes, prime api.Prime) bool {
	if prime.Kind == api.PrimeIf && !isPair(p, prime.Pair) {
		return false
	}
	return numbered(len(p.Sprints.List), prime.Sprint) && prime.Kind >= api.PrimePlace && prime.Kind <= api.PrimeShare &&
		prime.Coins >= 0 && prime.Coins <= api.PrimeCoins && numbered(p.Sprints.Pairs, prime.Place)
}

// areOrders returns whether there is for each sprint a list of all pairs, each once.
func areOrders(p api.Primes, orders [][]int) bool {
	if len(orders) != len(p.Sprints.List) {
		return false
	}
	for _, o := range orders {
		if !isOrder(p, o) {
			return false
		}
	}
	return true
}

// isOrder returns whether an order is a list of all pairs, each once.
func isOrder(p api.Primes, o order) bool {
	for _, pair := range o {
		if !isPair(p, pair) {
			return false
		}
	}
	return len(o) == p.Sprints.Pairs && setOf(o...) == 1<<p.Sprints.Pairs-1
}

// isPair returns whether a number is one of a pair.
func isPair(p api.Primes, pair int) bool { return numbered(p.Sprints.Pairs, pair) }

// isPrime returns whether a number is one of a prime.
func isPrime(p api.Primes, prime int) bool { return numbered(len(p.List), prime) }

// numbered returns whether a number is that of one of so many things.
func numbered(things, number int) bool {
	return number >= 0 && number < things
}

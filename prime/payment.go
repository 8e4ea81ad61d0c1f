package prime

import (
	"math/bits"

	"lapworks/api"
)

// payment is what a prime pays to each pair, and what it leaves.
type payment struct {
	prime int
	coins [api.SprintPairs]int
	left  int
}

// pay returns what a prime pays if a set of pairs share its purse.
func pay(prime, purse, sharers int) payment {
	p := payment{prime: prime}
	// Where nobody shares there is nothing to divide.
	each := purse / max(1, bits.OnesCount(uint(sharers)))
	for pair := range p.coins {
		if sharers>>pair&1 == 1 {
			p.coins[pair] = each
		}
	}
	p.left = purse - p.paid()
	return p
}

// paid returns how many coins are paid to all pairs together.
func (p payment) paid() int { return sum(p.coins[:]...) }

// rest returns how many coins are left.
func (p payment) rest() int { return p.left }

// sum returns how many coins there are together.
func sum(coins ...int) int {
	all := 0
	for _, n := range coins {
		all += n
	}
	return all
}

// payee is a pair that is paid.
type payee int

// due returns how many coins are paid to the pair.
func (to payee) due(p payment) int { return p.coins[to] }

// only returns what counts the payment of one prime alone.
func only(prime int, counted func(p payment) int) func(p payment) int {
	return func(p payment) int {
		if p.prime != prime {
			return 0
		}
		return counted(p)
	}
}

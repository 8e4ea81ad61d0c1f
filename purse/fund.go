package purse

import (
	"slices"

	"lapworks/api"
)

// fund is a valid purse, with what each pair gets of what is split by hours, and who surely is ahead of whom.
type fund struct {
	api.Purse
	shares []int
	ahead  ahead
}

// fundOf returns the fund of a purse.
func fundOf(p api.Purse) fund { return fund{p, split(p.Led, p.Hours), aheadOf(p.Board)} }

// pairs returns how many pairs there are.
func (f fund) pairs() int { return f.Board.Count.Pairs }

// due returns what is due to a pair that comes on a place.
func (f fund) due(pair, place int) int {
	prize := 0
	if place < len(f.Prizes) {
		prize = f.Prizes[place]
	}
	return sum(prize, f.shares[pair])
}

// dueTo returns what counts the coins that are due to some pairs.
func (f fund) dueTo(pairs set) pay { return pay{standing{pairs}, f} }

// span returns the span of what is counted of all pairs, of all final orders.
func (f fund) span(c counter) api.Span { return f.ahead.ends(f.pairs(), c).span() }

// dues returns what is due to each pair by an order.
func (f fund) dues(order []int) []int {
	coins := make([]int, f.pairs())
	for place, pair := range order {
		coins[pair] = f.due(pair, place)
	}
	return coins
}

// isFinal returns whether a list is a final order.
func (f fund) isFinal(order []int) bool {
	for final := range f.ahead.orders(f.pairs()) {
		if slices.Equal(final, order) {
			return true
		}
	}
	return false
}

// exact returns what is due to each pair by an order. It gives up unless this is a final one.
func (f fund) exact(order []int) []int {
	require(f.isFinal(order), api.ErrRefuse)
	return f.dues(order)
}

// advance is what can be paid to each pair at once, and what is held back of what is due to all.
type advance struct {
	coins []int
	held  int
}

// advance returns what can be paid at once: what is due to each pair by whatever final order.
func (f fund) advance() advance {
	var a advance
	for order := range f.ahead.orders(f.pairs()) {
		dues := f.dues(order)
		if a.coins == nil {
			a.coins = slices.Clone(dues)
		}
		for pair, due := range dues {
			a.coins[pair] = min(a.coins[pair], due)
		}
		// All coins together are the same by each final order.
		a.held = sum(dues...) - sum(a.coins...)
	}
	return a
}

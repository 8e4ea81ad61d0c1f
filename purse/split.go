package purse

import (
	"cmp"
	"slices"
)

// share is whose share it is, by number, and what the division left of it.
type share struct{ number, left int }

// ranking is shares, and which of two comes first, if not the one that is first among them.
type ranking struct {
	shares  []share
	compare func(a, b share) int
}

// sorted returns the shares as they come.
func (r ranking) sorted() []share {
	sorted := slices.Clone(r.shares)
	slices.SortStableFunc(sorted, r.compare)
	return sorted
}

// split returns what each one gets of some coins, by hours.
func split(coins int, hours []int) []int {
	got, all := make([]int, len(hours)), sum(hours...)
	if all == 0 {
		return got
	}
	most := ranking{compare: func(a, b share) int { return cmp.Compare(b.left, a.left) }}
	for number, own := range hours {
		got[number] = coins * own / all
		most.shares = append(most.shares, share{number, coins * own % all})
	}
	// Fewer coins are left than shares of which something is.
	for _, s := range most.sorted()[:coins-sum(got...)] {
		got[s.number]++
	}
	return got
}

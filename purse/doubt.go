package purse

import (
	"cmp"
	"slices"

	"lapworks/api"
)

// doubt is a pair of which it is not known exactly how much is due to it.
type doubt struct {
	fund
	pair int
}

// hint is a pair, and by how much both ends of what is due to the pair in doubt can still differ if it is known who of the two is ahead.
type hint struct{ other, most int }

// ask returns of whom to know who is ahead, so that least is left in doubt. It gives up if nothing is in doubt.
func (d doubt) ask() hint {
	require(d.wide(d.ahead) > 0, api.ErrRefuse)
	// A pair that can come on two places has somebody to be asked for.
	other := least(d.others(), d.most)
	return hint{other, d.most(other)}
}

// others returns all pairs of whom it is not sure who is ahead of the pair.
func (d doubt) others() []int {
	var others []int
	for other := range d.pairs() {
		if other != d.pair && !d.ahead.isOver(d.pair, other) && !d.ahead.isOver(other, d.pair) {
			others = append(others, other)
		}
	}
	return others
}

// wide returns by how much both ends of what is due to the pair differ, if it is known who is ahead of whom.
func (d doubt) wide(a ahead) int { return a.ends(d.pairs(), d.dueTo(one(d.pair))).wide() }

// most returns by how much both ends can still differ if it is known who of the pair and another one is ahead.
func (d doubt) most(other int) int {
	most := 0
	for _, known := range [...]func(a ahead, pair, other int) ahead{ahead.over, ahead.under} {
		most = max(most, d.wide(known(d.ahead, d.pair, other)))
	}
	return most
}

// least returns the thing of which a number is least, of several the first one.
func least[T any](things []T, number func(thing T) int) T {
	return slices.MinFunc(things, func(a, b T) int { return cmp.Compare(number(a), number(b)) })
}

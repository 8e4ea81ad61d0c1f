package purse

import (
	"lapworks/api"
	"lapworks/board"
)

// told returns what is told of a purse, if the purse is valid, what else is asked for is in its range, and there is a truth.
func told[T any](p api.Purse, inRange bool, tell func(f fund) T) (T, api.Errno) {
	return answer(func() T {
		_, _, e := board.Leads(p.Board)
		require(e != api.ErrArg && isValid(p), api.ErrArg)
		require(inRange, api.ErrRange)
		// What is left is that the board has no truth.
		require(e == api.OK, e)
		return tell(fundOf(p))
	})
}

// answer returns what ask finds, or the error with which it gave up.
func answer[T any](ask func() T) (found T, e api.Errno) {
	defer func() {
		switch cause := recover().(type) {
		case nil:
		case api.Errno:
			e = cause
		default:
			// Only require is meant to panic; if anything else does, the argument led to it.
			e = api.ErrArg
		}
	}()
	return ask(), api.OK
}

// require gives up with an error unless all is well.
func require(well bool, e api.Errno) {
	if !well {
		panic(e)
	}
}

// isValid returns whether a purse is valid, but for its board.
func isValid(p api.Purse) bool {
	if len(p.Prizes) > api.PursePlaces || len(p.Hours) != p.Board.Count.Pairs {
		return false
	}
	most := api.PurseCoins
	for _, prize := range p.Prizes {
		if !upTo(most, prize) {
			return false
		}
		most = prize
	}
	return canSplit(p.Led, p.Hours)
}

// canSplit returns whether so many coins can be split by such hours.
func canSplit(coins int, hours []int) bool {
	if !upTo(api.PurseCoins, coins) || len(hours) > api.PurseShares {
		return false
	}
	for _, own := range hours {
		if !upTo(api.PurseHours, own) {
			return false
		}
	}
	return true
}

// isPair returns whether a number is that of a pair.
func isPair(p api.Purse, pair int) bool { return pair >= 0 && pair < p.Board.Count.Pairs }

// arePairs returns whether a number is a set of pairs.
func arePairs(p api.Purse, pairs int) bool {
	// A valid purse has hours for each pair.
	return upTo(int(firstOf(len(p.Hours))), pairs)
}

// isOrder returns whether a list is one of all pairs, each once.
func isOrder(p api.Purse, order []int) bool {
	var come set
	for _, pair := range order {
		if !isPair(p, pair) || come.has(pair) {
			return false
		}
		come = come.with(pair)
	}
	return len(order) == p.Board.Count.Pairs
}

// upTo returns whether a number is from 0 to another one.
func upTo(most, number int) bool { return number >= 0 && number <= most }

package purse

import (
	"iter"
	"slices"

	"lapworks/api"
	"lapworks/board"
)

// ahead is, of each pair, the set of those who surely are ahead of it.
type ahead [api.CountPairs]set

// aheadOf returns who surely is ahead of whom on a board that has a truth.
func aheadOf(b api.Board) ahead {
	var a ahead
	for pair := range b.Count.Pairs {
		for other := range b.Count.Pairs {
			if pair == other {
				continue
			}
			if whether, _ := board.Ahead(b, pair, other); whether == api.BoardAlways {
				a = a.over(pair, other)
			}
		}
	}
	return a
}

// over returns the same if a pair is ahead of another one as well. What follows from both together need not be added: an order that keeps to these keeps to that, too.
func (a ahead) over(pair, other int) ahead {
	a[other] = a[other].with(pair)
	return a
}

// under returns the same if a pair is behind another one as well.
func (a ahead) under(pair, other int) ahead { return a.over(other, pair) }

// isOver returns whether a pair surely is ahead of another one.
func (a ahead) isOver(pair, other int) bool { return a[other].has(pair) }

// orders returns an iterator over the lists of so many pairs, each once, in which nobody comes before one who surely is ahead of it. The lexicographically first one comes first.
func (a ahead) orders(pairs int) iter.Seq[[]int] {
	return func(yield func(order []int) bool) {
		var goOn func(come, left []int) bool
		goOn = func(come, left []int) bool {
			if len(left) == 0 {
				return yield(slices.Clone(come))
			}
		next:
			for i, pair := range left {
				for _, other := range left {
					if a.isOver(other, pair) {
						continue next
					}
				}
				if !goOn(append(come, pair), slices.Delete(slices.Clone(left), i, i+1)) {
					return false
				}
			}
			return true
		}
		var all []int
		for pair := range pairs {
			all = append(all, pair)
		}
		goOn(nil, all)
	}
}

package purse

import "lapworks/api"

// ends is the least and the greatest of some sums.
type ends struct{ least, most int }

// with returns the ends of the sums of both together.
func (e ends) with(other ends) ends {
	return ends{min(e.least, other.least), max(e.most, other.most)}
}

// plus returns the ends of sums that are greater by a number.
func (e ends) plus(n int) ends { return ends{sum(e.least, n), sum(e.most, n)} }

// wide returns by how much both ends differ.
func (e ends) wide() int { return e.most - e.least }

// span returns the span from the one end to the other one.
func (e ends) span() api.Span { return api.Span{Lo: e.least, Hi: e.most} }

// top is the pairs that come first, in whatever order, and how many they are, which is the place of the next one.
type top struct {
	pairs set
	many  int
}

// with returns the top with the next pair.
func (t top) with(pair int) top { return top{t.pairs.with(pair), t.many + 1} }

// ends returns the ends of what is counted of all of so many pairs, of all final orders.
func (a ahead) ends(pairs int, c counter) ends {
	// What those count who come next does not depend on the order of those before them.
	sums := map[top]ends{{}: {}}
	for range pairs {
		longer := map[top]ends{}
		for first, e := range sums {
			for pair := range pairs {
				if !first.pairs.has(pair) && a[pair]&^first.pairs == 0 {
					keep(longer, first.with(pair), e.plus(c.of(pair, first.many)))
				}
			}
		}
		sums = longer
	}
	return sums[top{firstOf(pairs), pairs}]
}

// keep keeps the ends of more sums of a top, with those that are known.
func keep(sums map[top]ends, t top, more ends) {
	if known, found := sums[t]; found {
		more = more.with(known)
	}
	sums[t] = more
}

package sprint

// asked is a number that is asked of an order.
type asked interface {
	of(o order) int
}

// prizes is how many points the places get, as far as they get any.
type prizes []int

// at returns how many points a place gets.
func (p prizes) at(place int) int {
	if place >= len(p) {
		return 0
	}
	return p[place]
}

// points asks how many points a pair has.
type points struct {
	prizes prizes
	pair   int
}

func (p points) of(o order) int { return p.prizes.at(o.place(p.pair)) }

// margin asks by how many points the first pair of a duel is ahead of the second one.
type margin struct {
	prizes prizes
	duel   duel
}

func (m margin) of(o order) int {
	return m.prizes.at(o.place(m.duel.first)) - m.prizes.at(o.place(m.duel.second))
}

// ends returns the ends of what is asked of the orders in which the sprint can have ended. There has to be one.
func (l look) ends(q asked) ends[int] {
	var each []ends[int]
	for o := range l.orders {
		n := q.of(o)
		each = append(each, ends[int]{n, n})
	}
	return joined(ends[int].with, each[0], each[1:]...)
}

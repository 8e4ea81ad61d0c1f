package spill

import "lapworks/api"

// score is a lap that a pair won or lost; it counts unless it is void.
type score interface {
	id() int
	of(pair int) bool
	// times returns how many times, 0 or 1, it can count if such laps are void.
	times(void laps) ends
	// worth returns what it can add to the balance of its pair if such laps are void.
	worth(void laps) ends
}

// gain is a lap that a pair won.
type gain struct{ api.SpillReport }

func (g gain) id() int { return g.Id }

func (g gain) of(pair int) bool { return g.Pair == pair }

func (g gain) times(void laps) ends {
	n := ends{0, 1}
	if !some(g.At, void.has) {
		n.Lo = 1
	}
	if !some(g.At, void.lacks) {
		n.Hi = 0
	}
	return n
}

func (g gain) worth(void laps) ends { return g.times(void) }

// loss is a lap that a pair lost: like one that it won, but for what it is worth.
type loss struct{ gain }

func (l loss) worth(void laps) ends { return l.times(void).negative() }

// ends is the least and the greatest of some numbers.
type ends api.Span

// with returns the ends of the numbers of both together.
func (a ends) with(b ends) ends { return ends{min(a.Lo, b.Lo), max(a.Hi, b.Hi)} }

// plus returns the ends of the sums of a number of the one and a number of the other.
func (a ends) plus(b ends) ends { return ends{a.Lo + b.Lo, a.Hi + b.Hi} }

// negative returns the ends of the numbers with the other sign.
func (a ends) negative() ends { return ends{-a.Hi, -a.Lo} }

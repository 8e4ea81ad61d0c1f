package sprint

import "lapworks/api"

// ends is the least and the greatest of some numbers.
type ends[N ~int] struct{ least, most N }

// with returns the ends of the numbers of both together.
func (a ends[N]) with(b ends[N]) ends[N] {
	return ends[N]{min(a.least, b.least), max(a.most, b.most)}
}

// plus returns the ends of the sums of a number of the one and a number of the other.
func (a ends[N]) plus(b ends[N]) ends[N] {
	return ends[N]{a.least + b.least, a.most + b.most}
}

// span returns the span from the one end to the other one.
func (a ends[N]) span() api.Span {
	return api.Span{Lo: int(a.least), Hi: int(a.most)}
}

// joined returns what becomes of the first ends, joined with each of the others.
func joined[N ~int](join func(a, b ends[N]) ends[N], first ends[N], others ...ends[N]) ends[N] {
	for _, next := range others {
		first = join(first, next)
	}
	return first
}

package prime

import "lapworks/api"

// ends is the least and the greatest of some numbers.
type ends struct{ least, most int }

// with returns the ends of the numbers of both together.
func (a ends) with(b ends) ends {
	return ends{min(a.least, b.least), max(a.most, b.most)}
}

// plus returns the ends of numbers that are all more by as much.
func (a ends) plus(n int) ends { return ends{a.least + n, a.most + n} }

// wide returns by how much the ends differ.
func (a ends) wide() int { return a.most - a.least }

// span returns the span from the one end to the other one.
func (a ends) span() api.Span { return api.Span{Lo: a.least, Hi: a.most} }

// joined returns what becomes of several ends, each joined with those before it. There has to be one.
func joined(join func(a, b ends) ends, all []ends) ends {
	sum := all[0]
	for _, next := range all[1:] {
		sum = join(sum, next)
	}
	return sum
}

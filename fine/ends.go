package fine

import (
	"iter"

	"lapworks/api"
)

// ends is the least and the greatest of some numbers of coins.
type ends struct{ least, most int }

// with returns the ends of the numbers of both together.
func (a ends) with(b ends) ends { return ends{min(a.least, b.least), max(a.most, b.most)} }

// plus returns the ends of the sums of one number of each.
func (a ends) plus(b ends) ends { return ends{sum(a.least, b.least), sum(a.most, b.most)} }

// span returns the span from the one end to the other one.
func (a ends) span() api.Span { return api.Span{Lo: a.least, Hi: a.most} }

// part is some offences (a set), and the ends of what is counted of them if some riders did these, and no others.
type part struct {
	offences int
	ends
}

// view tells which part a thing is.
type view[T any] struct{ part func(thing T) part }

// joined returns, by the offences, the ends of all parts with the same offences.
func joined[T any](things iter.Seq[T], by view[T]) map[int]ends {
	all := map[int]ends{}
	for thing := range things {
		p := by.part(thing)
		if known, found := all[p.offences]; found {
			p.ends = p.with(known)
		}
		all[p.offences] = p.ends
	}
	return all
}

// couple is a part of some riders, and one of another rider.
type couple [2]part

// couples returns an iterator over the couples of parts that have no offence in common.
func couples(some, other map[int]ends) iter.Seq[couple] {
	return func(yield func(c couple) bool) {
		for one, e := range some {
			for two, f := range other {
				if one&two == 0 && !yield(couple{{one, e}, {two, f}}) {
					return
				}
			}
		}
	}
}

// part returns both parts as one.
func (c couple) part() part {
	return part{c[0].offences | c[1].offences, c[0].plus(c[1].ends)}
}

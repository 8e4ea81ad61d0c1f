package chase

import (
	"slices"

	"lapworks/api"
)

// field is which times all pairs can have, by their numbers, and how many of them come into the final. The time of one pair does not depend on those of the others.
type field struct {
	all   []times
	final int
}

// fieldOf returns the field of a valid chase.
func fieldOf(c api.Chase) field {
	f := field{final: c.Final}
	for pair, told := range c.Pairs {
		f.all = append(f.all, timesOf(pair, told, c.Error))
	}
	return f
}

// canBe returns whether there is a truth.
func (f field) canBe() bool {
	for _, t := range f.all {
		if !t.canBe() {
			return false
		}
	}
	return true
}

// place returns at which places a pair can be: behind all that surely lead, and at most behind all that can.
func (f field) place(pair int) api.Span {
	return api.Span{Lo: f.before(pair, times.mustLead), Hi: f.before(pair, times.canLead)}
}

// before returns how many other pairs lead a pair.
func (f field) before(pair int, leads func(t, other times) bool) int {
	n := 0
	for _, t := range f.all {
		if t.pair != pair && leads(t, f.all[pair]) {
			n++
		}
	}
	return n
}

// cut returns which time the last pair that comes into the final can have. It is the least if all pairs are as fast as they can be, and the greatest if all are as slow.
func (f field) cut() api.Span {
	var fast, slow []int
	for _, t := range f.all {
		fast = append(fast, t.Lo)
		slow = append(slow, t.Hi)
	}
	slices.Sort(fast)
	slices.Sort(slow)
	return api.Span{Lo: fast[f.final-1], Hi: slow[f.final-1]}
}

// known returns the field if a time of a pair is known.
func (f field) known(pair, time int) field {
	all := make([]times, len(f.all))
	copy(all, f.all)
	all[pair].Span = api.Span{Lo: time, Hi: time}
	f.all = all
	return f
}

// settled returns whether each pair comes into the final in all orders, or in none.
func (f field) settled() bool {
	orders := 0
	finals := map[finalist]int{}
	for o := range f.orders {
		orders++
		for _, pair := range o[:f.final] {
			finals[finalist{pair, f.final}]++
		}
	}
	for pair := range f.all {
		if n := finals[finalist{pair, f.final}]; n > 0 && n < orders {
			return false
		}
	}
	return true
}

// settledBy returns whether the final is settled if the time of a pair is known, whichever it is.
func (f field) settledBy(pair int) bool {
	for time := f.all[pair].Lo; time <= f.all[pair].Hi; time++ {
		if !f.known(pair, time).settled() {
			return false
		}
	}
	return true
}

package fine

import (
	"cmp"
	"math/bits"
	"slices"

	"lapworks/api"
)

// span returns the span of what is counted of all offences together, of all truths.
func (l ledger) span(c counter) api.Span { return l.ends(c).span() }

// ends returns the ends of what is counted of all offences together, of all truths.
func (l ledger) ends(c counter) ends {
	var all ends
	for kind := range l.Rules {
		all = all.plus(l.ofKind(kind, c))
	}
	return all
}

// ofKind returns the ends of what is counted of all offences of a kind together, of all truths.
func (l ledger) ofKind(kind int, c counter) ends {
	byRider := view[record]{func(r record) part {
		n := r.counted(c)
		return part{r.offences(), ends{n, n}}
	}}
	// What a rider did makes nothing dearer that another one did, so that each is looked at alone, and added to those before.
	all := map[int]ends{0: {}}
	for rider := range l.Riders {
		own := joined(l.records(kind, rider), byRider)
		all = joined(couples(all, own), view[couple]{couple.part})
	}
	return all[l.setOf(kind)]
}

// exact returns what each offence costs if it is known who did it, and when.
func (l ledger) exact(riders, hours []int) []int {
	var deeds []deed
	for number, o := range l.List {
		deeds = append(deeds, deed{o.Kind, number, riders[number], hours[number]})
	}
	var r record
	for _, d := range inOrder(deeds, deed.before) {
		r = l.with(r, d)
	}
	return slices.Clone(r.costs[:len(l.List)])
}

// inOrder returns things in order, by which comes before which.
func inOrder[T any](things []T, before func(a, b T) bool) []T {
	return slices.SortedFunc(slices.Values(things), func(a, b T) int {
		switch {
		case before(a, b):
			return -1
		case before(b, a):
			return 1
		default:
			return 0
		}
	})
}

// withdraw returns the set of the fewest offences without which a rider's fine is at most so much in each truth.
func (l ledger) withdraw(rider, most int) int {
	var sets []int
	for offences := range l.all() + 1 {
		if l.without(offences).ends(fined{rider}).most <= most {
			sets = append(sets, offences)
		}
	}
	// Without any offence nobody is fined, so that there is such a set. Of several with as many offences this is the first one.
	return slices.MinFunc(sets, func(a, b int) int {
		return cmp.Compare(bits.OnesCount(uint(a)), bits.OnesCount(uint(b)))
	})
}

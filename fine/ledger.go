package fine

import (
	"slices"

	"lapworks/api"
)

// ledger is valid fines.
type ledger struct{ api.Fines }

// all returns the set of all offences.
func (l ledger) all() int { return 1<<len(l.List) - 1 }

// setOf returns the set of all offences of a kind.
func (l ledger) setOf(kind int) int {
	set := 0
	for number, o := range l.List {
		if o.Kind == kind {
			set |= 1 << number
		}
	}
	return set
}

// without returns the ledger as if some offences (a set) had never been written.
func (l ledger) without(offences int) ledger {
	l.List = slices.Clone(l.List)
	// From the end on, so that those that are still to be withdrawn keep their numbers.
	for number := len(l.List) - 1; number >= 0; number-- {
		if offences>>number&1 == 1 {
			l.List = slices.Delete(l.List, number, number+1)
		}
	}
	return l
}

package fine

import (
	"iter"
	"maps"

	"lapworks/api"
)

// record is which deeds were done, and what each offence costs, by number. One that is not among them costs nothing.
type record struct {
	done  map[deed]bool
	costs [api.FineList]int
}

// with returns a record with a deed more that comes behind all others.
func (l ledger) with(r record, d deed) record {
	rule, earlier := l.Rules[d.kind], 0
	for other := range r.done {
		if other.kind == d.kind && other.rider == d.rider && other.hour >= d.hour-rule.Window {
			earlier++
		}
	}
	// Others can go on from the same record, so that each gets deeds of its own.
	done := map[deed]bool{d: true}
	maps.Copy(done, r.done)
	more := record{done, r.costs}
	more.costs[d.number] = min(rule.Most, rule.Base+rule.Step*earlier)
	return more
}

// offences returns the set of the offences of a record.
func (r record) offences() int {
	set := 0
	for d := range r.done {
		set |= 1 << d.number
	}
	return set
}

// records returns an iterator over all that a rider can have done of a kind, from nothing on, one deed behind the other.
func (l ledger) records(kind, rider int) iter.Seq[record] {
	return func(yield func(r record) bool) {
		var goOn func(r record, left []deed) bool
		goOn = func(r record, left []deed) bool {
			if !yield(r) {
				return false
			}
		next:
			for _, d := range left {
				for other := range r.done {
					// Each offence is done but once.
					if other.number == d.number {
						continue next
					}
				}
				if !goOn(l.with(r, d), only(left, d.before)) {
					return false
				}
			}
			return true
		}
		goOn(record{}, l.deeds(kind, rider))
	}
}

// only returns the things that are such.
func only[T any](things []T, such func(thing T) bool) []T {
	var found []T
	for _, thing := range things {
		if such(thing) {
			found = append(found, thing)
		}
	}
	return found
}

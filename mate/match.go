package mate

import (
	"iter"
	"slices"
)

// nobody is the partner of somebody who is alone.
const nobody = -1

// match is the partner of each person.
type match []int

// left returns the set of all who are alone.
func (m match) left() set { return setOf(len(m)) &^ m.paired() }

// paired returns the set of all who have a partner.
func (m match) paired() set {
	var all set
	for two := range m.couples {
		all = union(all, one(two.first), one(two.second))
	}
	return all
}

// alone returns how many people are alone.
func (m match) alone() int { return m.left().size() }

// couples yields all who ride together.
func (m match) couples(yield func(two couple) bool) {
	for person, partner := range m {
		// A couple is met at each of both.
		if person < partner && !yield(couple{person, partner}) {
			return
		}
	}
}

// copied returns the match in memory of its own.
func (m match) copied() match {
	other := make(match, len(m))
	copy(other, m)
	return other
}

// pairings returns an iterator over all ways in which so many people can be put together two by two, the first one first, whether they can ride together or not. Each is valid until the next one comes.
func pairings(people int) iter.Seq[match] {
	return func(yield func(m match) bool) {
		m := slices.Repeat(match{nobody}, people)
		var from func(person int) bool
		from = func(person int) bool {
			if person == people {
				return yield(m)
			}
			if m[person] != nobody {
				return from(person + 1)
			}
			for partner := person + 1; partner < people; partner++ {
				if m[partner] != nobody {
					continue
				}
				m[person], m[partner] = partner, person
				more := from(person + 1)
				m[person], m[partner] = nobody, nobody
				if !more {
					return false
				}
			}
			// To be alone comes behind all partners.
			return from(person + 1)
		}
		from(0)
	}
}

// keeper keeps those of all things that weigh least, in the order in which they come.
type keeper[T any] struct {
	weigh func(thing T) int
	kept  []T
}

// keep keeps a thing, if none is lighter that is kept.
func (k *keeper[T]) keep(thing T) {
	switch {
	case len(k.kept) == 0 || k.weigh(thing) < k.weigh(k.kept[0]):
		k.kept = []T{thing}
	case k.weigh(thing) == k.weigh(k.kept[0]):
		k.kept = append(k.kept, thing)
	}
}

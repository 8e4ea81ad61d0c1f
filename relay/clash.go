package relay

import "iter"

// union returns the set of what is in any of some sets.
func union(sets ...int) int {
	all := 0
	for _, set := range sets {
		all |= set
	}
	return all
}

// clashes is, for each entry, the set of those before it with which it cannot be so; itself is in it, too, if it cannot be so alone.
type clashes []int

// clashes returns which entries clash. A clash is proved by a moment that is too late for another one, so that no more than two entries are needed for it.
func (n notes) clashes() clashes {
	c := make(clashes, len(n.spans))
	for a := range c {
		for b := range a + 1 {
			if !n.canBe(union(1<<a, 1<<b)) {
				c[a] = union(c[a], 1<<b)
			}
		}
	}
	return c
}

// all returns the set of all entries.
func (c clashes) all() int { return 1<<len(c) - 1 }

// among returns whether some of a set of entries clash.
func (c clashes) among(set int) bool {
	for entry, others := range c {
		if set>>entry&1 == 1 && set&others != 0 {
			return true
		}
	}
	return false
}

// search is for a set of some entries that is enough for something. What is enough is so with more entries, too, and all entries are.
type search struct {
	entries int
	enough  func(set int) bool
}

// fewest returns the fewest entries that are enough, of several sets the least number.
func (s search) fewest() int {
	fewest := 0
sizes:
	for size := range s.entries + 1 {
		for set := range s.sets(size) {
			if s.enough(set) {
				fewest = set
				break sizes
			}
		}
	}
	return fewest
}

// sets yields sets of so many entries, the least number first; only such as are not enough are left out.
func (s search) sets(size int) iter.Seq[int] {
	return func(yield func(set int) bool) {
		s.grow(0, s.entries, size, yield)
	}
}

// grow yields what a set can become by so many more entries, each below a number, and returns whether more of it is wanted.
func (s search) grow(set, below, more int, yield func(set int) bool) bool {
	if more == 0 {
		return yield(set)
	}
	grow := s.grow
	for entry := range below {
		larger, lower := union(set, 1<<entry), 1<<entry-1
		// It is in vain if even with all that can still come it is not enough.
		if s.enough(union(larger, lower)) && !grow(larger, entry, more-1, yield) {
			return false
		}
	}
	return true
}

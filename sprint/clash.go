package sprint

import (
	"math/bits"

	"lapworks/api"
)

// seen returns how many things were seen in the sprint.
func (l look) seen() int { return len(l.Ahead) + len(l.Places) }

// clash returns whether the sprint could have ended in no order if nothing had been seen in it but a set of what was.
func (l look) clash(set int) bool {
	return lookOf(l.pairs, l.only(set)).count() == 0
}

// only returns the sprint with a set of what was seen in it alone.
func (l look) only(set int) api.Sprint {
	var kept api.Sprint
	for i, a := range l.Ahead {
		if set>>i&1 == 1 {
			kept.Ahead = append(kept.Ahead, a)
		}
	}
	for i, p := range l.Places {
		if set>>(len(l.Ahead)+i)&1 == 1 {
			kept.Places = append(kept.Places, p)
		}
	}
	return kept
}

// search is for a set of some things that is enough. What is enough is so with more things, too, and all things are.
type search struct {
	things int
	enough func(set int) bool
}

// fewest returns the set of the fewest things that are enough, of several the least number.
func (s search) fewest() int {
	all := 1<<s.things - 1
	for size := range s.things {
		for set := range all {
			if bits.OnesCount(uint(set)) == size && s.enough(set) {
				return set
			}
		}
	}
	return all
}

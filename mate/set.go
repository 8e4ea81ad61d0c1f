package mate

import "math/bits"

// set is some people: the bit n is set just if the person n is one of them.
type set int

// setOf returns the set of the first so many people.
func setOf(people int) set { return 1<<people - 1 }

// one returns the set of one person alone.
func one(person int) set { return 1 << person }

// has returns whether a person is in the set.
func (s set) has(person int) bool { return s&one(person) != 0 }

// size returns how many people are in the set.
func (s set) size() int { return bits.OnesCount(uint(s)) }

// union returns the set of all who are in one of some sets.
func union(sets ...set) set {
	var all set
	for _, s := range sets {
		all |= s
	}
	return all
}

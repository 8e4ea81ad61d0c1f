package chase

import (
	"math/bits"

	"lapworks/api"
)

// search is for one of so many numbers, from 0 on, for which something is so.
type search[N ~int] struct {
	numbers N
	so      func(n N) bool
}

// least returns the least number that is searched for, and whether there is one.
func least[N ~int](s search[N]) (number N, found bool) {
	for n := range s.numbers {
		if s.so(n) {
			return n, true
		}
	}
	return 0, false
}

// choice is a set of watches, with how many they are in the digits before it, so that of two choices that with fewer watches is less.
type choice int

func (c choice) size() int     { return int(c) >> api.ChaseWatches }
func (c choice) watches() uint { return uint(c) & (1<<api.ChaseWatches - 1) }

// fewestWrong returns the set of the fewest watches without which all others can be right, if these can be wrong by so much.
func fewestWrong(told []int, wrong int) int {
	fewest, _ := least(search[choice]{(api.ChaseWatches + 1) << api.ChaseWatches, func(c choice) bool {
		set := c.watches()
		return bits.OnesCount(set) == c.size() && timesOf(0, without(told, set), wrong).canBe()
	}})
	return int(fewest.watches())
}

// without returns what is told by watches but those of a set.
func without(told []int, set uint) []int {
	var kept []int
	for watch, time := range told {
		if set>>watch&1 == 0 {
			kept = append(kept, time)
		}
	}
	return kept
}

package field

import (
	"math/bits"
	"slices"

	"lapworks/api"
)

// proof returns the fewest sights with which, and with further conditions, there is no truth, of several sets the least number. It gives up if there is one with all sights.
func proof(f api.Field, further ...condition) int {
	proves := func(set int) bool {
		return !courseOf(only(f, set), further...).truths().exist()
	}
	require(proves(1<<len(f.Sights)-1), api.ErrNone)
	return fewest(len(f.Sights), proves)
}

// only returns a field with a set of its sights alone.
func only(f api.Field, set int) api.Field {
	sights := slices.Clone(f.Sights)
	for i := len(sights) - 1; i >= 0; i-- {
		if set>>i&1 == 0 {
			sights = slices.Delete(sights, i, i+1)
		}
	}
	f.Sights = sights
	return f
}

// fewest returns the set of the fewest of so many things that are enough, of several sets the least number. All things together have to be enough.
func fewest(things int, enough func(set int) bool) int {
	all := 1<<things - 1
	for size := range things {
		for set := range all {
			if bits.OnesCount(uint(set)) == size && enough(set) {
				return set
			}
		}
	}
	return all
}

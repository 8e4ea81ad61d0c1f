package spill

import (
	"cmp"
	"maps"
	"slices"

	"lapworks/api"
)

// standing is reports that stand, without what they have not, by their Ids.
type standing map[int]api.SpillReport

// standingOf returns what stands of some lists of valid reports together.
func standingOf(lists ...[]api.SpillReport) standing {
	s := standing{}
	for _, r := range slices.Concat(lists...) {
		r = kindOf(r).own(r)
		if old, found := s[r.Id]; !found || compare(r, old) > 0 {
			s[r.Id] = r
		}
	}
	return s
}

// has returns whether the same report stands.
func (s standing) has(id int, r api.SpillReport) bool {
	own, found := s[id]
	return found && own == r
}

// journal returns the reports by their Ids, the lesser ones first.
func (s standing) journal() journal {
	return changed(slices.Collect(maps.Values(s)), func(list []api.SpillReport) { slices.SortFunc(list, compare) })
}

// compare holds two reports against each other, by their Ids first; of one Id the greater one stands. What a report has not has to be 0 in it.
func compare(a, b api.SpillReport) int {
	return difference(
		[2]int{a.Id, b.Id}, [2]int{a.Version, b.Version}, [2]int{a.Kind, b.Kind},
		[2]int{a.At.Lo, b.At.Lo}, [2]int{a.At.Hi, b.At.Hi}, [2]int{a.Laps.Lo, b.Laps.Lo}, [2]int{a.Laps.Hi, b.Laps.Hi},
		[2]int{a.Pair, b.Pair},
	)
}

// difference returns how the numbers of the first two that differ compare, 0 if none do.
func difference(twos ...[2]int) int {
	for _, two := range twos {
		if c := cmp.Compare(two[0], two[1]); c != 0 {
			return c
		}
	}
	return 0
}

// changed returns a list that was copied, and then changed.
func changed[T any](list []T, change func(list []T)) []T {
	copied := make([]T, len(list))
	copy(copied, list)
	change(copied)
	return copied
}

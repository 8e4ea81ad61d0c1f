package count_test

import (
	"math/rand"
	"slices"
	"testing"

	"lapworks/api"
	"lapworks/count"
)

func counted(pairs int, sheets ...[]int) api.Count { return api.Count{Pairs: pairs, Sheets: sheets} }

func list(l ...int) []int { return l }

func span(lo, hi int) api.Span { return api.Span{Lo: lo, Hi: hi} }

// exampleC, exampleD and exampleE are the counts of the chapter's examples.
func exampleC() api.Count { return counted(3, list(0, 1, 2), list(0, 2, 2)) }
func exampleD() api.Count { return counted(2, list(0, 1), list(1, 0)) }
func exampleE() api.Count { return counted(2, list(0, 1), list(1, 0), list(0, 1, 0)) }

// clashing is D with a sheet that is longer than all races.
func clashing() api.Count { return counted(2, list(0, 1), list(1, 0), list(0, 1, 0, 1)) }

// with returns a count with one sheet more.
func with(c api.Count, sheet []int) api.Count {
	return counted(c.Pairs, append(slices.Clone(c.Sheets), sheet)...)
}

// lists returns all lists of at most so many pairs, in order.
func lists(pairs, most int) [][]int {
	all := [][]int{nil}
	if most == 0 {
		return all
	}
	for first := range pairs {
		for _, l := range lists(pairs, most-1) {
			all = append(all, append(list(first), l...))
		}
	}
	return all
}

// randomCount returns a count of so many pairs and sheets, each of at most so many passings.
func randomCount(r *rand.Rand, pairs, sheets, most int) api.Count {
	c := api.Count{Pairs: pairs}
	for range sheets {
		sheet := make([]int, r.Intn(most+1))
		for i := range sheet {
			sheet[i] = r.Intn(pairs)
		}
		c.Sheets = append(c.Sheets, sheet)
	}
	return c
}

// smallCounts returns counts of each number of pairs and of sheets, all of whose races can be looked through.
func smallCounts() []api.Count {
	r := rand.New(rand.NewSource(11))
	most := []int{0, 6, 4, 3, 2}
	all := []api.Count{exampleC(), exampleD(), exampleE(), clashing()}
	for pairs := 1; pairs <= api.CountPairs; pairs++ {
		for sheets := 1; sheets <= api.CountSheets; sheets++ {
			for range 12 {
				all = append(all, randomCount(r, pairs, sheets, most[pairs]))
			}
		}
	}
	return all
}

// longest returns how many passings a race can have at most: as many as the first two sheets have together.
func longest(c api.Count) int {
	n := len(c.Sheets[0])
	if len(c.Sheets) > 1 {
		n += len(c.Sheets[1])
	}
	return n
}

// told returns all races that are told to be truths, those too that are one passing longer than any can be.
func told(t *testing.T, c api.Count) [][]int {
	t.Helper()
	var all [][]int
	for _, race := range lists(c.Pairs, longest(c)+1) {
		if must(t)(count.Is(c, race)) {
			all = append(all, race)
		}
	}
	return all
}

// must returns what takes a result that has no error.
func must(t *testing.T) func(is bool, e api.Errno) bool {
	t.Helper()
	return func(is bool, e api.Errno) bool {
		t.Helper()
		if e != api.OK {
			t.Fatal(e)
		}
		return is
	}
}

// times returns how often a pair is in a race.
func times(race []int, pair int) int {
	n := 0
	for _, p := range race {
		if p == pair {
			n++
		}
	}
	return n
}

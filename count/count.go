// Package count compares the sheets of counters, and tells what can be said of the race that they saw.
package count

import (
	"slices"

	"lapworks/api"
)

// Fewest returns how many errors all sheets have together, by each truth.
func Fewest(c api.Count) (errors int, e api.Errno) {
	return answer(func() int {
		first := someTruths(c, true)[0]
		sum := 0
		for _, sheet := range c.Sheets {
			sum += first.errors(sheet)
		}
		return sum
	})
}

// Count returns how many truths there are.
func Count(c api.Count) (int, api.Errno) {
	return answer(func() int {
		return len(allTruths(c, true))
	})
}

// First returns the first truth.
func First(c api.Count) ([]int, api.Errno) {
	return answer(func() []int {
		return slices.Clone(someTruths(c, true)[0])
	})
}

// Is returns whether a race is a truth.
func Is(c api.Count, race []int) (bool, api.Errno) {
	return answer(func() bool {
		return allTruths(c, numbered(c.Pairs, race...)).contain(race)
	})
}

// Laps returns the set of the numbers of laps that a pair has in some truth.
func Laps(c api.Count, pair int) (laps int, e api.Errno) {
	return answer(func() int {
		lapsOf := race.laps
		set := 0
		for r := range someTruths(c, numbered(c.Pairs, pair)).each {
			set |= 1 << lapsOf(r, pair)
		}
		return set
	})
}

// Lead returns by how many laps a pair can be ahead of another one.
func Lead(c api.Count, pair, other int) (api.Span, api.Errno) {
	return answer(func() api.Span {
		d := duel{pair, other}
		return someTruths(c, d.isOf(c.Pairs)).span(d.lead)
	})
}

// Settle returns the first passing that settles which of two pairs has more laps.
func Settle(c api.Count, pair, other int) (passing int, e api.Errno) {
	return answer(func() int {
		d := duel{pair, other}
		t := someTruths(c, d.isOf(c.Pairs))
		sides := t.span(d.side)
		require(sides.Lo < sides.Hi, api.ErrRefuse)
		first, found := t.settling(d)
		require(found, api.ErrNone)
		return first
	})
}

// Errors returns how many errors a counter can have made.
func Errors(c api.Count, sheet int) (api.Span, api.Errno) {
	return answer(func() api.Span {
		t := someTruths(c, numbered(len(c.Sheets), sheet))
		return t.span(func(r race) int { return r.errors(c.Sheets[sheet]) })
	})
}

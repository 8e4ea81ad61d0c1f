package book

import (
	"cmp"
	"slices"

	"lapworks/api"
)

// isCount returns whether a count is valid.
func isCount(c api.Count) bool {
	return from(1, api.CountPairs, c.Pairs) && from(1, api.CountSheets, len(c.Sheets)) && all(c.Sheets, func(sheet []int) bool {
		return len(sheet) <= api.CountPassings && numbered(c.Pairs, sheet...)
	})
}

// areRelays returns whether relays are valid.
func areRelays(r api.Relays) bool {
	return from(0, api.RelayRest, r.Rest) && len(r.Stints) <= api.RelayStints && all(r.Stints, isStint)
}

// isStint returns whether a stint is valid.
func isStint(s api.RelayStint) bool {
	return numbered(2, s.Rider) && all([]api.Span{s.On[0], s.On[1], s.Off[0], s.Off[1]}, func(s api.Span) bool {
		return isSpan(api.RelayMinutes, s)
	})
}

// areSprints returns whether sprints are valid.
func areSprints(s api.Sprints) bool {
	return from(1, api.SprintPairs, s.Pairs) && arePoints(s.Points) && len(s.List) <= api.SprintList && all(s.List, func(sprint api.Sprint) bool {
		return isSprint(s.Pairs, sprint)
	})
}

// arePoints returns whether the points of places are valid.
func arePoints(points []int) bool {
	return len(points) <= api.SprintPairs && from(0, api.SprintPoints, points...) &&
		slices.IsSortedFunc(points, func(a, b int) int { return cmp.Compare(b, a) })
}

// isSprint returns whether a sprint of so many pairs is valid.
func isSprint(pairs int, s api.Sprint) bool {
	if len(s.Ahead) > api.SprintAhead || len(s.Places) > api.SprintPlaces {
		return false
	}
	return all(s.Ahead, func(a [2]int) bool { return numbered(pairs, a[:]...) && a[0] != a[1] }) &&
		all(s.Places, func(p api.SprintPlace) bool { return numbered(pairs, p.Pair) && isSpan(pairs-1, p.Place) })
}

// areFines returns whether fines are valid.
func areFines(f api.Fines) bool {
	return len(f.Rules) <= api.FineRules && all(f.Rules, isRule) &&
		slices.Contains([]int{2, 4, api.FineRiders}, f.Riders) &&
		len(f.List) <= api.FineList && all(f.List, func(o api.Offence) bool { return isOffence(f, o) })
}

// isRule returns whether a rule is valid.
func isRule(r api.FineRule) bool {
	return from(0, api.FineCoins, r.Base, r.Step, r.Most) && from(0, api.FineHour, r.Window)
}

// isOffence returns whether an offence is valid for rules and riders that are.
func isOffence(f api.Fines, o api.Offence) bool {
	return numbered(len(f.Rules), o.Kind) && from(1, 1<<f.Riders-1, o.Riders) &&
		isSpan(api.FineHour, o.Hours) && o.Hours.Hi-o.Hours.Lo <= api.FineWide
}

// isSpan returns whether a span is valid within 0 to another number.
func isSpan(most int, s api.Span) bool { return from(0, most, s.Lo, s.Hi) && s.Lo <= s.Hi }

// numbered returns whether numbers are those of some of so many things.
func numbered(things int, numbers ...int) bool { return from(0, things-1, numbers...) }

// from returns whether numbers are from a least one to a greatest one.
func from(least, most int, numbers ...int) bool {
	return all(numbers, func(n int) bool { return n >= least && n <= most })
}

// all returns whether something is so of all things.
func all[T any](things []T, is func(thing T) bool) bool {
	return !slices.ContainsFunc(things, func(thing T) bool { return !is(thing) })
}

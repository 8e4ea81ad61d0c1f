package board

import (
	"lapworks/api"
	"lapworks/count"
	"lapworks/sprint"
)

// matter is what would settle who of two is ahead: a passing, or a sprint.
type matter struct{ kind, number int }

// settling returns what would settle who of two is ahead.
func (t table) settling(pair, other int) matter {
	g := t.gap(pair, other)
	require(!settled(g), api.ErrRefuse)
	if !settled(g.laps) {
		return matter{api.BoardPassing, must(count.Settle(t.Count, pair, other))}
	}
	return matter{api.BoardSprint, widest(measure[api.Sprint]{t.Sprints.List, func(s api.Sprint) int {
		alone := t.Sprints
		alone.List = []api.Sprint{s}
		margin := must(sprint.Margin(alone, pair, other))
		return margin.Hi - margin.Lo
	}})}
}

// need returns the least number of points that make a pair surely ahead of another one. It gives up if it can have fewer laps.
func (t table) need(pair, other int) int {
	g := t.gap(pair, other)
	require(g.laps.worst() >= 0, api.ErrNone)
	if g.laps.worst() > 0 {
		return 0
	}
	return max(0, 1-g.points.Lo)
}

// measure is things, and how wide each of them is.
type measure[T any] struct {
	things []T
	width  func(thing T) int
}

// widest returns the number of the widest thing, of several the first one.
func widest[T any](m measure[T]) int {
	number, most := 0, 0
	for i, thing := range m.things {
		if width := m.width(thing); width > most {
			number, most = i, width
		}
	}
	return number
}

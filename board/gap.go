package board

import (
	"cmp"

	"lapworks/api"
)

// lead is how one pair stands to another one: 1 if it is ahead of it, 0 if both are level, -1 if it is behind.
type lead interface {
	// worst returns how it stands in the truth that is worst for it.
	worst() int
	// best returns how it stands in the truth that is best for it.
	best() int
}

// whether returns whether a pair is ahead always, never, or perhaps.
func whether(l lead) int {
	switch {
	case l.worst() > 0:
		return api.BoardAlways
	case l.best() > 0:
		return api.BoardPerhaps
	default:
		return api.BoardNever
	}
}

// settled returns whether a pair is ahead in each truth, or level in each, or behind in each.
func settled(l lead) bool { return l.worst() == l.best() }

// laps is how many laps a pair can have more than another one: how it stands by laps alone.
type laps struct{ api.Span }

func (l laps) worst() int { return cmp.Compare(l.Lo, 0) }

func (l laps) best() int { return cmp.Compare(l.Hi, 0) }

// gap is how many points a pair can have more than another one, too: how it stands by these where laps are as many. Any number of laps goes together with any number of points.
type gap struct {
	laps
	points api.Span
}

func (g gap) worst() int { return cmp.Or(g.laps.worst(), cmp.Compare(g.points.Lo, 0)) }

func (g gap) best() int { return cmp.Or(g.laps.best(), cmp.Compare(g.points.Hi, 0)) }

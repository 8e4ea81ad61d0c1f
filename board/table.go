package board

import (
	"lapworks/api"
	"lapworks/count"
	"lapworks/sprint"
)

// duel is two pairs that are held against each other.
type duel struct{ pair, other int }

// table is a board with what has been found of its duels.
type table struct {
	api.Board
	known map[duel]gap
}

// tableOf returns the table of a valid board.
func tableOf(b api.Board) table { return table{b, map[duel]gap{}} }

// pairs returns how many pairs there are.
func (t table) pairs() int { return t.Count.Pairs }

// gap returns how far two pairs are apart.
func (t table) gap(pair, other int) gap {
	d := duel{pair, other}
	g, found := t.known[d]
	if !found {
		// A truth can take long to find, so that it is not asked for twice.
		g = gap{laps{must(count.Lead(t.Count, pair, other))}, must(sprint.Margin(t.Sprints, pair, other))}
		t.known[d] = g
	}
	return g
}

// whether returns whether a pair is ahead of another one always, never, or perhaps.
func (t table) whether(pair, other int) int { return whether(t.gap(pair, other)) }

// surely returns whether a pair is ahead of another one in each truth.
func (t table) surely(pair, other int) bool { return t.whether(pair, other) == api.BoardAlways }

// perhaps returns whether a pair is ahead of another one in some truth.
func (t table) perhaps(pair, other int) bool { return t.whether(pair, other) != api.BoardNever }

// ranks is which ranks each pair can have.
type ranks [api.CountPairs]api.Span

// ranks returns which ranks each pair can have.
func (t table) ranks() ranks {
	var r ranks
	for pair := range t.pairs() {
		r[pair] = t.rank(pair)
	}
	return r
}

// rank returns from how many pairs surely are ahead of a pair to how many others there are that it is not surely ahead of.
func (t table) rank(pair int) api.Span {
	r := api.Span{Lo: 0, Hi: t.pairs() - 1}
	for other := range t.pairs() {
		switch {
		case other == pair:
		case t.surely(other, pair):
			r.Lo++
		case t.surely(pair, other):
			r.Hi--
		}
	}
	return r
}

// leaders is the set of the pairs that surely lead, and that of those that can.
type leaders struct{ surely, perhaps int }

// leaders returns who leads.
func (t table) leaders() leaders {
	return leaders{surely: t.first(t.perhaps), perhaps: t.first(t.surely)}
}

// first returns the set of the pairs that no other one is ahead of.
func (t table) first(ahead func(pair, other int) bool) int {
	var behind []int
	for pair := range t.pairs() {
		for other := range t.pairs() {
			if other != pair && ahead(pair, other) {
				behind = append(behind, 1<<other)
			}
		}
	}
	all := 1<<t.pairs() - 1
	return all &^ union(behind...)
}

// union returns the set of what is in any of some sets.
func union(sets ...int) int {
	all := 0
	for _, set := range sets {
		all |= set
	}
	return all
}

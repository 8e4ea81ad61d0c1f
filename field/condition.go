package field

import "lapworks/api"

// condition is what leaves a place as one where pairs can be, or not.
type condition interface {
	leaves(p place) bool
}

// sight is the condition that what was seen is right.
type sight struct {
	api.FieldSight
	circuit circuit
}

func (s sight) leaves(p place) bool {
	_, seen := s.circuit.split(duel{s.Pair, s.Other}.gap(p))
	return p.moment != s.Moment || s.Gap.Lo <= seen && seen <= s.Gap.Hi
}

// claim is the condition that at least so many laps have been won at a moment.
type claim struct {
	moment, laps int
	won          func(place) int
}

func (c claim) leaves(p place) bool {
	return p.moment != c.moment || c.won(p) >= c.laps
}

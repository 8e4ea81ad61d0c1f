package spill

import "lapworks/api"

// laps is a set of laps.
type laps uint64

// lapsOf returns the laps of a span.
func lapsOf(s api.Span) laps { return 1<<(s.Hi+1) - 1<<s.Lo }

// and returns the laps that both have.
func (l laps) and(other laps) laps { return l & other }

// or returns the laps that either has.
func (l laps) or(other laps) laps { return l | other }

// has returns whether a lap is one of these.
func (l laps) has(lap int) bool { return l>>lap&1 == 1 }

// lacks returns whether a lap is none of these.
func (l laps) lacks(lap int) bool { return !l.has(lap) }

// spans returns the laps as spans, as few as can be, in order.
func (l laps) spans() []api.Span {
	var all []api.Span
	// The last fall can neutralise the race beyond the last lap at which anything happens.
	for lap := range api.SpillLap + api.SpillLaps {
		switch last := len(all) - 1; {
		case l.lacks(lap):
		case last >= 0 && all[last].Hi == lap-1:
			all[last].Hi = lap
		default:
			all = append(all, api.Span{Lo: lap, Hi: lap})
		}
	}
	return all
}

// some returns whether something is so of a lap of a span.
func some(s api.Span, is func(lap int) bool) bool {
	for lap := s.Lo; lap <= s.Hi; lap++ {
		if is(lap) {
			return true
		}
	}
	return false
}

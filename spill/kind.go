package spill

import "lapworks/api"

// kind is what there is about reports of a kind.
type kind struct {
	// valid tells whether what only reports of this kind have is valid.
	valid func(r api.SpillReport) bool
	// own returns a report without what reports of this kind have not.
	own func(r api.SpillReport) api.SpillReport
	// score returns the score that a report is of, nil if it is of none.
	score func(r api.SpillReport) score
}

// kinds returns all kinds of reports, by their numbers.
func kinds() [3]kind {
	withPair := func(r api.SpillReport) bool { return within(r.Pair, 0, api.SpillPairs-1) }
	withoutLaps := func(r api.SpillReport) api.SpillReport {
		r.Laps = api.Span{}
		return r
	}
	return [...]kind{
		api.SpillFall: {
			valid: func(r api.SpillReport) bool { return validSpan(r.Laps, 1, api.SpillLaps) },
			own: func(r api.SpillReport) api.SpillReport {
				r.Pair = 0
				return r
			},
			score: func(api.SpillReport) score { return nil },
		},
		api.SpillGain: {withPair, withoutLaps, func(r api.SpillReport) score { return gain{r} }},
		api.SpillLoss: {withPair, withoutLaps, func(r api.SpillReport) score { return loss{gain{r}} }},
	}
}

// kindOf returns the kind of a report, which has to be one.
func kindOf(r api.SpillReport) kind { return kinds()[r.Kind] }

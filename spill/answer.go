package spill

import "lapworks/api"

// answer returns what ask finds, or the error with which it gave up.
func answer[T any](ask func() T) (found T, e api.Errno) {
	defer func() {
		switch cause := recover().(type) {
		case nil:
		case api.Errno:
			e = cause
		default:
			// Only require is meant to panic; if anything else does, the argument led to it.
			e = api.ErrArg
		}
	}()
	return ask(), api.OK
}

// require gives up with an error unless all is well.
func require(well bool, e api.Errno) {
	if !well {
		panic(e)
	}
}

// valid returns whether a journal is valid.
func valid(l []api.SpillReport) bool {
	if len(l) > api.SpillReports {
		return false
	}
	for _, r := range l {
		if !validReport(r) {
			return false
		}
	}
	return len(standingOf(l).journal().falls()) <= api.SpillFalls
}

// validReport returns whether a report is valid.
func validReport(r api.SpillReport) bool {
	return within(r.Id, 0, api.SpillIds) && within(r.Version, 0, api.SpillVersions) &&
		validSpan(r.At, 0, api.SpillLap) && within(r.Kind, api.SpillFall, api.SpillLoss) && kindOf(r).valid(r)
}

// validSpan returns whether a span is valid, within bounds, and no wider than those of reports are.
func validSpan(s api.Span, least, most int) bool {
	return within(s.Lo, least, most) && within(s.Hi, s.Lo, most) && s.Hi-s.Lo <= api.SpillWide
}

// within returns whether a number is from one bound to another one.
func within(n, least, most int) bool {
	return n >= least && n <= most
}

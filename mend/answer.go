package mend

import "lapworks/api"

// toldOf returns what is told of an order of the jobs of a mend, if the mend is valid, and the order is one.
func toldOf[T any](m api.Mend, order []int, tell func(s shop, order []int) T) (T, api.Errno) {
	return told(m, func(s shop) T {
		require(s.isOrder(order), api.ErrRange)
		return tell(s, order)
	})
}

// told returns what is told of a mend, if it is valid, or the error with which tell gave up.
func told[T any](m api.Mend, tell func(s shop) T) (found T, e api.Errno) {
	defer func() {
		switch cause := recover().(type) {
		case nil:
		case api.Errno:
			e = cause
		default:
			// Only require is meant to panic; if anything else does, the argument led to it.
			e = api.ErrArg
		}
	}()
	s := shop{m}
	require(s.isValid(), api.ErrArg)
	return tell(s), api.OK
}

// require gives up with an error unless all is well.
func require(well bool, e api.Errno) {
	if !well {
		panic(e)
	}
}

// isValid returns whether the mend is valid.
func (s shop) isValid() bool {
	if len(s.Setup) > api.MendKinds || len(s.Jobs) > api.MendJobs {
		return false
	}
	for _, minutes := range s.Setup {
		if !upTo(api.MendLong, minutes) {
			return false
		}
	}
	for number, job := range s.Jobs {
		if !s.isJob(number, job) {
			return false
		}
	}
	return true
}

// isJob returns whether a job is valid that has a number.
func (s shop) isJob(number int, job api.MendJob) bool {
	others := s.all() &^ (1 << number)
	return numbered(len(s.Setup), job.Kind) &&
		job.Minutes.Lo >= 1 && job.Minutes.Lo <= job.Minutes.Hi && job.Minutes.Hi <= api.MendLong &&
		upTo(api.MendHour, job.From) && upTo(api.MendHour, job.Soft) && upTo(api.MendHour, job.By) &&
		upTo(api.MendCost, job.Cost) && job.After&^others == 0
}

// isOrder returns whether a list has all jobs, each once.
func (s shop) isOrder(list []int) bool {
	if len(list) != len(s.Jobs) {
		return false
	}
	seen := 0
	for _, job := range list {
		if !numbered(len(s.Jobs), job) {
			return false
		}
		seen |= 1 << job
	}
	return seen == s.all()
}

// numbered returns whether a number is that of one of so many things.
func numbered(things, number int) bool { return number >= 0 && number < things }

// upTo returns whether a number is from 0 to another one.
func upTo(most, number int) bool { return number >= 0 && number <= most }

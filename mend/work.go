package mend

import "lapworks/api"

// ends is the least and the greatest that a number of minutes can be.
type ends [2]int

// endsOf returns the ends of a span.
func endsOf(s api.Span) ends { return ends{s.Lo, s.Hi} }

// span returns the span from the one end to the other one.
func (e ends) span() api.Span { return api.Span{Lo: e[0], Hi: e[1]} }

// most returns the greatest that the number can be.
func (e ends) most() int { return e[1] }

// past is what was done before a job: which jobs (a set), of which kind the last one was, and from when on the mechanic is free.
type past struct {
	jobs, kind int
	free       ends
}

// start returns the past of the first job if some jobs are left: these count as done before it. As nothing has been set up, the kind is none.
func start(left int) past { return past{jobs: left, kind: -1} }

// work is how a job is done: what was done before it, which job it is, and when it is done.
type work struct {
	past
	job  int
	done ends
}

// shop is a valid mend, whose jobs are done one after the other.
type shop struct{ api.Mend }

// all returns the set of all jobs.
func (s shop) all() int { return 1<<len(s.Jobs) - 1 }

// work returns how a job is done after some past.
func (s shop) work(p past, job int) work {
	w, j := work{past: p, job: job}, s.Jobs[job]
	ready := s.setUp(p, j.Kind)
	// All before a job, and the job itself, can take least together, or most.
	for end, minutes := range endsOf(j.Minutes) {
		w.done[end] = max(ready[end], j.From) + minutes
	}
	return w
}

// setUp returns when the mechanic is ready for a job of a kind.
func (s shop) setUp(p past, kind int) ends {
	ready := p.free
	if kind != p.kind {
		for end := range ready {
			ready[end] += s.Setup[kind]
		}
	}
	return ready
}

// after returns the past of a job that comes next after another one.
func (s shop) after(w work) past {
	return past{jobs: w.jobs | 1<<w.job, kind: s.Jobs[w.job].Kind, free: w.done}
}

// along returns how each job is done by an order, one after the other.
func (s shop) along(order []int) []work {
	var all []work
	p := start(0)
	for _, job := range order {
		w := s.work(p, job)
		all = append(all, w)
		p = s.after(w)
	}
	return all
}

// fine returns how many coins a job costs, at most, as it is done.
func (s shop) fine(w work) int {
	j := s.Jobs[w.job]
	return j.Cost * max(0, w.done.most()-j.Soft)
}

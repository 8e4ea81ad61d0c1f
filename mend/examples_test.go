package mend_test

import (
	"slices"
	"testing"

	"lapworks/api"
	"lapworks/mend"
)

// P10.1: the chapter's examples; setting up for the first job and for another kind, waiting for From, and no jobs.
func TestTimes(t *testing.T) {
	for i, x := range []struct {
		m     api.Mend
		order []int
		want  []api.Span
	}{
		{exampleM(), list(0, 2, 1), list(span(5, 6), span(6, 8), span(11, 14))}, {exampleM(), list(2, 0, 1), list(span(5, 6), span(8, 10), span(13, 16))},
		// An order need not be right.
		{exampleM(), list(0, 1, 2), list(span(5, 6), span(10, 12), span(13, 16))}, {exampleM(), list(1, 0, 2), list(span(5, 6), span(10, 12), span(11, 14))}, {exampleL(), list(0, 2, 1), list(span(5, 6), span(6, 8), span(11, 14))},
		{of(nil), nil, nil}, {of(list(5, 6, 7)), nil, nil}, {of(list(0), easy(0, 1, 1)), list(0), list(span(1, 1))}, {of(list(9, 30), easy(1, 1, 30)), list(0), list(span(31, 60))},
		// Of the same kind again, after one of another kind, too.
		{of(list(5), easy(0, 2, 3), easy(0, 4, 4)), list(1, 0), list(span(9, 9), span(11, 12))}, {of(list(5, 1), easy(0, 2, 3), easy(0, 4, 4), easy(1, 1, 1)), list(1, 2, 0), list(span(9, 9), span(11, 11), span(18, 19))},
		{of(list(5, 1, 2), easy(1, 1, 1), easy(2, 1, 1), easy(1, 1, 1), easy(0, 1, 2)), list(0, 2, 1, 3), list(span(2, 2), span(3, 3), span(6, 6), span(12, 13))},
		// The mechanic sets up at once, also if the job is begun later.
		{of(list(5), job(0, 2, 3, 4, 0, 0, 0)), list(0), list(span(7, 8))}, {of(list(5), job(0, 2, 3, 5, 0, 0, 0)), list(0), list(span(7, 8))}, {of(list(5), job(0, 2, 3, 6, 0, 0, 0)), list(0), list(span(8, 9))}, {of(list(5), job(0, 2, 3, 300, 0, 0, 0)), list(0), list(span(302, 303))},
		{of(list(0, 4), easy(0, 3, 9), job(1, 2, 2, 10, 0, 0, 0)), list(0, 1), list(span(3, 9), span(12, 15))}, {of(list(0, 4), easy(0, 3, 9), job(1, 2, 2, 7, 0, 0, 0)), list(0, 1), list(span(3, 9), span(9, 15))}, {of(list(0, 4), easy(0, 3, 9), job(1, 2, 2, 20, 0, 0, 0)), list(0, 1), list(span(3, 9), span(22, 22))},
		{of(list(0, 4), easy(0, 3, 9), job(0, 2, 2, 5, 0, 0, 0)), list(0, 1), list(span(3, 9), span(7, 11))},
	} {
		if times, e := mend.Times(x.m, x.order); !slices.Equal(times, x.want) || e != api.OK {
			t.Error(i, times, e)
		}
	}
}

// P10.2: the chapter's examples; the first job of the order, not the least one, and the lesser rule.
func TestCheck(t *testing.T) {
	for i, x := range []struct {
		m         api.Mend
		order     []int
		job, rule int
		e         api.Errno
	}{
		{exampleM(), list(0, 2, 1), 0, 0, api.ErrNone}, {exampleM(), list(0, 1, 2), 2, api.MendLate, api.OK}, {exampleM(), list(1, 0, 2), 1, api.MendAfter, api.OK}, {exampleM(), list(2, 0, 1), 0, 0, api.ErrNone},
		{exampleL(), list(0, 2, 1), 1, api.MendLate, api.OK}, {exampleM(), list(1, 2, 0), 1, api.MendAfter, api.OK}, {exampleM(), list(2, 1, 0), 1, api.MendAfter, api.OK},
		{of(nil), nil, 0, 0, api.ErrNone}, {of(list(3)), []int{}, 0, 0, api.ErrNone},
		// In the minute By is not late; one truth in which it is late is enough.
		{of(list(2), job(0, 3, 3, 0, 0, 5, 0)), list(0), 0, 0, api.ErrNone}, {of(list(2), job(0, 3, 3, 0, 0, 4, 0)), list(0), 0, api.MendLate, api.OK}, {of(list(2), job(0, 1, 4, 0, 0, 5, 0)), list(0), 0, api.MendLate, api.OK}, {of(list(2), job(0, 1, 3, 0, 0, 5, 0)), list(0), 0, 0, api.ErrNone},
		// Too late as soon as it may be begun.
		{of(list(0), job(0, 1, 1, 300, 0, 300, 0)), list(0), 0, api.MendLate, api.OK}, {of(list(0), job(0, 1, 1, 299, 0, 300, 0)), list(0), 0, 0, api.ErrNone}, {of(list(0), job(0, 1, 1, 9, 0, 0, 0)), list(0), 0, api.MendLate, api.OK},
		// Both rules at one job, and each at one of two.
		{of(list(0), job(0, 5, 5, 0, 0, 4, 0, 1), easy(0, 1, 1)), list(0, 1), 0, api.MendAfter, api.OK}, {of(list(0), job(0, 5, 5, 0, 0, 4, 0, 1), easy(0, 1, 1)), list(1, 0), 0, api.MendLate, api.OK},
		{of(list(0), easy(0, 5, 5), easy(0, 1, 1, 2), job(0, 5, 5, 0, 0, 4, 0)), list(0, 1, 2), 1, api.MendAfter, api.OK}, {of(list(0), easy(0, 5, 5), easy(0, 1, 1, 0), job(0, 5, 5, 0, 0, 4, 0)), list(2, 1, 0), 2, api.MendLate, api.OK},
		{of(list(0), easy(0, 1, 1), easy(0, 1, 1), job(0, 1, 1, 0, 0, 1, 0)), list(1, 2, 0), 2, api.MendLate, api.OK},
		// All of After come before, not only one, at any time.
		{of(list(0), easy(0, 1, 1), easy(0, 1, 1), easy(0, 1, 1, 0, 1)), list(0, 2, 1), 2, api.MendAfter, api.OK}, {of(list(0), easy(0, 1, 1), easy(0, 1, 1), easy(0, 1, 1, 0, 1)), list(1, 0, 2), 0, 0, api.ErrNone}, {of(list(0), easy(0, 1, 1), easy(0, 1, 1), easy(0, 1, 1, 0)), list(0, 1, 2), 0, 0, api.ErrNone},
		{of(list(0), easy(0, 1, 1, 1), easy(0, 1, 1, 0)), list(0, 1), 0, api.MendAfter, api.OK}, {of(list(0), easy(0, 1, 1, 1), easy(0, 1, 1, 0)), list(1, 0), 1, api.MendAfter, api.OK},
	} {
		if job, rule, e := mend.Check(x.m, x.order); job != x.job || rule != x.rule || e != x.e {
			t.Error(i, job, rule, e)
		}
	}
}

// P10.3: the chapter's examples; all jobs take longer together, at most by MendLong, also beyond the longest that is valid.
func TestSlack(t *testing.T) {
	for i, x := range []struct {
		m       api.Mend
		order   []int
		minutes int
		e       api.Errno
	}{
		{exampleM(), list(0, 2, 1), 2, api.OK}, {exampleM(), list(0, 1, 2), 0, api.ErrNone}, {exampleM(), list(2, 0, 1), 0, api.OK}, {exampleM(), list(1, 0, 2), 0, api.ErrNone}, {exampleL(), list(0, 2, 1), 0, api.ErrNone},
		{of(nil), nil, 30, api.OK}, {of(list(0), easy(0, 30, 30)), list(0), 30, api.OK}, {of(list(0), job(0, 30, 30, 0, 0, 60, 0)), list(0), 30, api.OK}, {of(list(0), job(0, 30, 30, 0, 0, 59, 0)), list(0), 29, api.OK}, {of(list(0), job(0, 30, 30, 0, 0, 61, 0)), list(0), 30, api.OK},
		{of(list(2), job(0, 1, 3, 0, 0, 5, 0)), list(0), 0, api.OK}, {of(list(2), job(0, 1, 3, 0, 0, 6, 0)), list(0), 1, api.OK}, {of(list(2), job(0, 1, 3, 0, 0, 4, 0)), list(0), 0, api.ErrNone},
		// Each before it, too; but what is waited for takes up some of it.
		{of(list(0), easy(0, 1, 1), easy(0, 1, 1), job(0, 1, 1, 0, 0, 10, 0)), list(0, 1, 2), 2, api.OK}, {of(list(0), easy(0, 1, 1), job(0, 1, 1, 0, 0, 9, 0)), list(0, 1), 3, api.OK}, {of(list(0), easy(0, 1, 1), job(0, 1, 1, 6, 0, 9, 0)), list(0, 1), 2, api.OK}, {of(list(0, 5), easy(0, 1, 1), job(1, 1, 1, 6, 0, 9, 0)), list(0, 1), 1, api.OK},
		// Not only the last one can be late.
		{of(list(0), job(0, 1, 1, 0, 0, 2, 0), easy(0, 1, 1)), list(0, 1), 1, api.OK}, {of(list(0), job(0, 1, 1, 0, 0, 2, 0), easy(0, 1, 1)), list(1, 0), 0, api.OK},
		{of(list(0), easy(0, 1, 1, 1), easy(0, 1, 1)), list(0, 1), 0, api.ErrNone}, {of(list(0), easy(0, 1, 1, 1), easy(0, 1, 1)), list(1, 0), 30, api.OK},
	} {
		if minutes, e := mend.Slack(x.m, x.order); minutes != x.minutes || e != x.e {
			t.Error(i, minutes, e)
		}
	}
}

// six returns a mend of as many jobs as there can be, in any order.
func six() api.Mend { return of(list(0), slices.Repeat(list(easy(0, 1, 1)), api.MendJobs)...) }

// P10.4: the chapter's examples; no jobs, all orders, one, and none.
func TestCountAndFirst(t *testing.T) {
	one, two := easy(0, 1, 1), job(0, 1, 1, 0, 0, 2, 0)
	for i, x := range []struct {
		m            api.Mend
		count, first int
	}{
		{exampleM(), 2, 5}, {exampleL(), 0, 0}, {of(nil), 1, 0}, {of(list(1, 2, 3)), 1, 0}, {of(list(0), one), 1, 1}, {of(list(0), job(0, 1, 1, 0, 0, 0, 0)), 0, 0}, {six(), 720, 63},
		{of(list(0), one, one, one), 6, 7}, {of(list(0), one, one, easy(0, 1, 1, 0)), 3, 3}, {of(list(0), one, easy(0, 1, 1, 0), easy(0, 1, 1, 1)), 1, 1}, {of(list(0), easy(0, 1, 1, 1, 2), one, one), 2, 6},
		{of(list(0), easy(0, 1, 1, 1), easy(0, 1, 1, 0)), 0, 0}, {of(list(0), easy(0, 1, 1, 2), easy(0, 1, 1, 0), easy(0, 1, 1, 1), one), 0, 0},
		// Two of these can be done in time, and no third one.
		{of(list(0), two, two), 2, 3}, {of(list(0), two, two, two), 0, 0}, {of(list(0), two, one, two), 2, 5}, {of(list(0), job(0, 1, 1, 0, 0, 1, 0), two, one), 1, 1},
		// Whatever can be first need not leave time for the others.
		{of(list(0), one, job(0, 3, 3, 0, 0, 3, 0)), 1, 2}, {of(list(2), easy(0, 1, 1), job(0, 1, 1, 0, 0, 4, 0)), 2, 3}, {of(list(2, 2), easy(0, 1, 1), job(1, 1, 1, 0, 0, 5, 0)), 1, 2},
	} {
		if n, e := mend.Count(x.m); n != x.count || e != api.OK {
			t.Error("Count", i, n, e)
		}
		if jobs, e := mend.First(x.m); jobs != x.first || e != api.OK {
			t.Error("First", i, jobs, e)
		}
	}
}

// P10.5: the chapter's examples; of several orders that cost as much the first one, and of dear ones none.
func TestBest(t *testing.T) {
	for i, x := range []struct {
		m    api.Mend
		best string
		e    api.Errno
	}{
		{exampleM(), "8 [0 2 1]", api.OK}, {exampleL(), "0 []", api.ErrNone}, {of(nil), "0 []", api.OK}, {of(list(4)), "0 []", api.OK}, {six(), "0 [0 1 2 3 4 5]", api.OK},
		{of(list(0), easy(0, 1, 1, 1), easy(0, 1, 1, 2), easy(0, 1, 1)), "0 [2 1 0]", api.OK}, {of(list(0), easy(0, 1, 1, 1), easy(0, 1, 1, 0)), "0 []", api.ErrNone},
		// In the minute Soft it costs nothing; most of all that it can take counts.
		{of(list(2), job(0, 1, 3, 0, 5, 300, 7)), "0 [0]", api.OK}, {of(list(2), job(0, 1, 3, 0, 4, 300, 7)), "7 [0]", api.OK}, {of(list(2), job(0, 1, 3, 0, 0, 300, 7)), "35 [0]", api.OK}, {of(list(2), job(0, 1, 3, 0, 0, 300, 0)), "0 [0]", api.OK}, {of(list(2), job(0, 1, 3, 10, 0, 300, 7)), "91 [0]", api.OK},
		// The dearer one of two comes first.
		{of(list(0), job(0, 2, 2, 0, 0, 300, 1), job(0, 2, 2, 0, 0, 300, 2)), "8 [1 0]", api.OK}, {of(list(0), job(0, 2, 2, 0, 0, 300, 2), job(0, 2, 2, 0, 0, 300, 2)), "12 [0 1]", api.OK}, {of(list(0), job(0, 2, 2, 0, 0, 300, 1, 1), job(0, 2, 2, 0, 0, 300, 0)), "4 [1 0]", api.OK},
		// Not in time the cheaper order is none.
		{of(list(0), job(0, 2, 2, 0, 0, 2, 1), job(0, 2, 2, 0, 0, 300, 2)), "10 [0 1]", api.OK},
		// What comes first by the numbers is not begun first if it costs more in the end.
		{of(list(3, 3), easy(0, 1, 1), easy(1, 1, 1), job(0, 1, 1, 0, 5, 300, 50)), "0 [0 2 1]", api.OK}, {of(list(3, 3), easy(0, 1, 1), job(1, 1, 1, 0, 4, 300, 50), job(0, 1, 1, 0, 10, 300, 50)), "0 [1 0 2]", api.OK},
		// After 2 both others cost as much in either order.
		{of(list(0), job(0, 3, 3, 0, 0, 300, 3), job(0, 1, 1, 0, 0, 300, 1), job(0, 1, 1, 0, 0, 300, 2)), "19 [2 0 1]", api.OK},
	} {
		if b := plannedOf(mend.Best(x.m)); b != (outcome[string]{x.best, x.e}) {
			t.Error(i, b)
		}
	}
}

// P10.6: the chapter's examples; 0 without jobs, setting up no more often than there must be, and no order.
func TestUntil(t *testing.T) {
	for i, x := range []struct {
		m     api.Mend
		until int
		e     api.Errno
	}{
		{exampleM(), 14, api.OK}, {exampleL(), 0, api.ErrNone}, {of(nil), 0, api.OK}, {of(list(30, 30)), 0, api.OK}, {six(), 6, api.OK}, {of(list(4), easy(0, 2, 9)), 13, api.OK}, {of(list(4), job(0, 2, 9, 0, 0, 12, 0)), 0, api.ErrNone},
		{of(list(4, 5), easy(0, 1, 2), easy(1, 1, 2), easy(0, 1, 2)), 15, api.OK}, {of(list(4, 5), easy(0, 1, 2), easy(1, 1, 2, 0), easy(0, 1, 2, 1)), 19, api.OK},
		// To wait for one costs less if others are done before.
		{of(list(0), easy(0, 5, 5), job(0, 1, 1, 5, 0, 300, 0)), 6, api.OK}, {of(list(0), easy(0, 5, 5, 1), job(0, 1, 1, 5, 0, 300, 0)), 11, api.OK},
		// The soonest order is not the one that costs least, nor need it be right.
		{of(list(0), job(0, 5, 5, 0, 6, 300, 0), job(0, 1, 1, 5, 0, 300, 0), job(0, 1, 1, 0, 1, 300, 50)), 7, api.OK}, {of(list(0), job(0, 5, 5, 0, 300, 300, 0), job(0, 1, 1, 5, 6, 300, 50), job(0, 1, 1, 0, 1, 300, 50)), 7, api.OK},
		{of(list(0), easy(0, 5, 5), job(0, 2, 2, 1, 3, 300, 50)), 7, api.OK}, {of(list(0), easy(0, 5, 5), job(0, 2, 2, 1, 0, 3, 0)), 8, api.OK},
	} {
		if n, e := mend.Until(x.m); n != x.until || e != x.e {
			t.Error(i, n, e)
		}
	}
}

// P10.7: the chapter's examples; the fewest, of several the least number, and all.
func TestDrop(t *testing.T) {
	never, one, two := job(0, 1, 1, 9, 0, 9, 0), job(0, 1, 1, 0, 0, 1, 0), job(0, 1, 1, 0, 0, 2, 0)
	for i, x := range []struct {
		m    api.Mend
		drop int
	}{
		{exampleM(), 0}, {exampleL(), 1}, {of(nil), 0}, {six(), 0}, {of(list(0), never), 1}, {of(list(0), never, never, never), 7}, {of(list(0), one, never), 2}, {of(list(0), one, one), 1}, {of(list(0), one, one, one), 3}, {of(list(0), two, two, two), 1}, {of(list(0), one, two, one), 1},
		// The least number, not the first of all in some other order: the job 2 alone, 4, rather than 0 and 1 together, 3.
		{of(list(0), one, easy(0, 1, 1), never), 4}, {of(list(0), job(0, 1, 1, 0, 0, 2, 0), job(0, 1, 1, 0, 0, 2, 0), job(0, 3, 3, 0, 0, 3, 0)), 4}, {of(list(0), two, two, easy(0, 1, 1), two), 1}, {of(list(0), easy(0, 1, 1), two, two, two), 2},
		// What is left counts for no After, also in a circle.
		{of(list(0), easy(0, 1, 1, 1), never), 2}, {of(list(0), easy(0, 1, 1, 1), easy(0, 1, 1, 0)), 1}, {of(list(0), easy(0, 1, 1, 2), easy(0, 1, 1, 0), easy(0, 1, 1, 1)), 1}, {of(list(0), job(0, 1, 1, 0, 0, 1, 0, 1), job(0, 1, 1, 0, 0, 1, 0)), 1},
		{of(list(0), easy(0, 1, 1, 1, 3), easy(0, 1, 1, 0, 2), easy(0, 1, 1, 1), easy(0, 1, 1, 0)), 3}, {of(list(0), easy(0, 1, 1, 1), easy(0, 1, 1, 0, 2), easy(0, 1, 1, 1)), 2},
		// A job that is left need not be set up for.
		{of(list(5, 5), job(0, 1, 1, 0, 0, 8, 0), job(1, 1, 1, 0, 0, 8, 0), job(0, 1, 1, 0, 0, 8, 0)), 2},
	} {
		if jobs, e := mend.Drop(x.m); jobs != x.drop || e != api.OK {
			t.Error(i, jobs, e)
		}
	}
}

// The example 10 of the document.
func TestDocument(t *testing.T) {
	if b := plannedOf(mend.Best(exampleM())); b != so("8 [0 2 1]") {
		t.Error(b)
	}
	if d := resultOf(mend.Drop(exampleL())); d != so(set(0)) {
		t.Error(d)
	}
}

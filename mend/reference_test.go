package mend_test

import (
	"fmt"
	"math/bits"
	"math/rand"
	"slices"
	"testing"

	"lapworks/api"
	"lapworks/mend"
)

// What the chapter defines is done here as it stands there: all orders and all truths are written down, and in each all jobs are done minute by minute.

// orders returns all orders of so many jobs, the first one first.
func orders(jobs int) [][]int {
	all := [][]int{nil}
	for range jobs {
		var longer [][]int
		for _, order := range all {
			for job := range jobs {
				if !slices.Contains(order, job) {
					longer = append(longer, append(slices.Clone(order), job))
				}
			}
		}
		all = longer
	}
	return all
}

// truths returns all truths of a mend: how many minutes each job takes.
func truths(m api.Mend) [][]int {
	all := [][]int{nil}
	for _, j := range m.Jobs {
		var longer [][]int
		for _, truth := range all {
			for n := j.Minutes.Lo; n <= j.Minutes.Hi; n++ {
				longer = append(longer, append(slices.Clone(truth), n))
			}
		}
		all = longer
	}
	return all
}

// done returns in which minute each job is done by an order, one after the other, in a truth.
func done(m api.Mend, order, truth []int) []int {
	var all []int
	minute, at := 0, -1
	for _, job := range order {
		j := m.Jobs[job]
		if j.Kind != at {
			minute += m.Setup[j.Kind]
		}
		at = j.Kind
		for minute < j.From {
			minute++
		}
		minute += truth[job]
		all = append(all, minute)
	}
	return all
}

// result is what comes of an order: when each job is done, the rules that it breaks at each, what it costs, and when all are done.
type result struct {
	order       []int
	times       []api.Span
	broken      [][]int
	cost, until int
}

// resultsOf returns what comes of an order, of all truths.
func resultsOf(m api.Mend, order []int, truths [][]int) result {
	x := result{order: order, broken: make([][]int, len(order))}
	for i, job := range order {
		for other := range m.Jobs {
			if m.Jobs[job].After>>other&1 == 1 && !slices.Contains(order[:i], other) {
				x.broken[i] = append(x.broken[i], api.MendAfter)
			}
		}
	}
	for n, truth := range truths {
		minutes, cost := done(m, order, truth), 0
		for i, minute := range minutes {
			j := m.Jobs[order[i]]
			if n == 0 {
				x.times = append(x.times, span(minute, minute))
			}
			x.times[i] = span(min(x.times[i].Lo, minute), max(x.times[i].Hi, minute))
			if minute > j.By {
				x.broken[i] = append(x.broken[i], api.MendLate)
			}
			for late := j.Soft; late < minute; late++ {
				cost += j.Cost
			}
			x.until = max(x.until, minute)
		}
		x.cost = max(x.cost, cost)
	}
	return x
}

// wrong returns the first job at which a rule is broken, and the least rule there.
func (x result) wrong() outcome[[2]int] {
	for i, rules := range x.broken {
		if len(rules) > 0 {
			return so([2]int{x.order[i], slices.Min(rules)})
		}
	}
	return outcome[[2]int]{e: api.ErrNone}
}

// results returns what comes of each order, the first one first.
func results(m api.Mend) []result {
	var all []result
	possible := truths(m)
	for _, order := range orders(len(m.Jobs)) {
		all = append(all, resultsOf(m, order, possible))
	}
	return all
}

// rights returns what comes of each right order, the first one first.
func rights(m api.Mend) []result {
	return slices.DeleteFunc(results(m), func(x result) bool { return x.wrong().e == api.OK })
}

// least returns the set of the fewest jobs without which an order is right.
func least(m api.Mend) int {
	for many := range len(m.Jobs) + 1 {
		for left := range 1 << len(m.Jobs) {
			if bits.OnesCount(uint(left)) == many && len(rights(without(m, left))) > 0 {
				return left
			}
		}
	}
	panic("without jobs no order is right")
}

// expected returns all that has to be told of a mend, but for its orders.
func expected(m api.Mend) told {
	all := rights(m)
	none := outcome[int]{e: api.ErrNone}
	a := told{count: so(len(all)), until: none, drop: so(least(m)), best: outcome[string]{"0 []", api.ErrNone}}
	for i, x := range all {
		if len(x.order) > 0 {
			a.first.result |= set(x.order[0])
		}
		if i == 0 || x.until < a.until.result {
			a.until = so(x.until)
		}
		if !slices.ContainsFunc(all, func(y result) bool { return y.cost < x.cost }) && a.best.e != api.OK {
			a.best = so(fmt.Sprint(x.cost, x.order))
		}
	}
	return a
}

// checked tests what is told of a mend against all orders and truths, and returns it.
func checked(t *testing.T, m api.Mend) told {
	t.Helper()
	a, want := ask(m), expected(m)
	if a != want {
		t.Errorf("%+v\ntold     %+v\nexpected %+v", m, a, want)
	}
	return a
}

// counted returns how often of some things of each kind one was found.
type counted map[string]int

// enough tests that at least so many of each of some kinds were found.
func (c counted) enough(t *testing.T, least int, kinds ...string) {
	t.Helper()
	for _, kind := range kinds {
		if c[kind] < least {
			t.Error("too few of a kind for a test", kind, c)
		}
	}
}

// P10.4 to P10.7, P10.9: all orders of mends of few jobs.
func TestAgainstTruths(t *testing.T) {
	r := rand.New(rand.NewSource(101))
	found := counted{}
	for i := range 2000 {
		jobs := i % 5
		a := checked(t, randomMend(r, jobs, 4+r.Intn(14*jobs+1), 2, i%3 == 0))
		if a.count.result == 0 {
			found["none"]++
		} else if a.count.result > 1 && a.best.result != "0 [0 1 2 3]" {
			found["several"]++
		}
		if a.drop.result&(a.drop.result-1) != 0 {
			found["many left"]++
		}
	}
	found.enough(t, 100, "none", "several", "many left")
}

// P10.4 to P10.7, R7: as many jobs as there can be.
func TestMany(t *testing.T) {
	r := rand.New(rand.NewSource(102))
	for i := range 16 {
		m := randomMend(r, 5+i%2, 20+r.Intn(60), 0, i%4 == 0)
		m.Jobs[r.Intn(4)].Minutes.Hi += 1 + i%2
		checked(t, m)
	}
	for range 6 {
		m := possible(r, api.MendJobs)
		checked(t, taking(m, truly(r, m)))
	}
}

// P10.1, P10.2: each order of mends of few jobs, right or not.
func TestEachOrder(t *testing.T) {
	r := rand.New(rand.NewSource(103))
	found := counted{}
	for i := range 300 {
		jobs := i % 5
		m := randomMend(r, jobs, 4+r.Intn(14*jobs+1), 3, i%3 == 0)
		for _, x := range results(m) {
			if times, e := mend.Times(m, x.order); !slices.Equal(times, x.times) || e != api.OK {
				t.Errorf("Times %+v %v: %v %v, not %v", m, x.order, times, e, x.times)
			}
			w, want := bothOf(mend.Check(m, x.order)), x.wrong()
			if w != want {
				t.Errorf("Check %+v %v: %v, not %v", m, x.order, w, want)
			}
			found[fmt.Sprint(want.result[1], want.e)]++
		}
	}
	found.enough(t, 100, "0 4", "1 0", "2 0")
}

// longer returns a mend in which each job can take so many minutes more.
func longer(m api.Mend, minutes int) api.Mend {
	return changed(m, func(m *api.Mend) {
		for i := range m.Jobs {
			m.Jobs[i].Minutes.Hi += minutes
		}
	})
}

// P10.3: each order of mends of few jobs: it is right with what is told, and not with more.
func TestSlackAgainstTruths(t *testing.T) {
	r := rand.New(rand.NewSource(104))
	found := counted{}
	for i := range 150 {
		m := randomMend(r, i%4, 4+r.Intn(40), 2, i%3 == 0)
		for _, order := range orders(len(m.Jobs)) {
			s := resultOf(mend.Slack(m, order))
			right := func(minutes int) bool {
				other := longer(m, minutes)
				return resultsOf(other, order, truths(other)).wrong().e == api.ErrNone
			}
			switch {
			case s.e == api.ErrNone:
				found["none"]++
				if s.result != 0 || right(0) {
					t.Errorf("%+v %v: %v", m, order, s)
				}
			case s.e != api.OK || !right(s.result) || s.result < api.MendLong && right(s.result+1) || s.result > api.MendLong:
				t.Errorf("%+v %v: %v", m, order, s)
			case s.result < api.MendLong:
				found["some"]++
			default:
				found["all"]++
			}
		}
	}
	found.enough(t, 30, "none", "some", "all")
}

// jobs returns all jobs with few minutes, of two kinds, that come after some set.
func jobs(after int) []api.MendJob {
	var all []api.MendJob
	for kind := range 2 {
		for from := range 2 {
			for by := 2; by < 6; by += 3 {
				for hi := range 2 {
					j := job(kind, 1, 1+hi, 3*from, 1, by, 1+kind)
					j.After = after
					all = append(all, j)
				}
			}
		}
	}
	return all
}

// P10.1 to P10.7: all mends of two jobs that are short, one after the other and not.
func TestEachPair(t *testing.T) {
	for after := range 4 {
		for _, zero := range jobs(after & 2) {
			for _, one := range jobs(after & 1) {
				m := of(list(0, 1), zero, one)
				checked(t, m)
				for _, x := range results(m) {
					if w := bothOf(mend.Check(m, x.order)); w != x.wrong() {
						t.Errorf("Check %+v %v: %v", m, x.order, w)
					}
				}
			}
		}
	}
}

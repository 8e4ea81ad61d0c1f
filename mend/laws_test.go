package mend_test

import (
	"math/bits"
	"math/rand"
	"slices"
	"testing"

	"lapworks/api"
	"lapworks/mend"
)

// randomOrder returns a right order of a mend that has one, found by jobs that can come first at random.
func randomOrder(t *testing.T, r *rand.Rand, m api.Mend) []int {
	t.Helper()
	var order []int
	for len(order) < len(m.Jobs) {
		job := r.Intn(len(m.Jobs))
		if slices.Contains(order, job) {
			continue
		}
		next := append(slices.Clone(order), job)
		// A job that comes next comes before all that are left.
		if n := must(mend.Count(begun(m, next)))(t); n > 0 {
			order = next
		}
	}
	return order
}

// begun returns a mend of which an order begins with some jobs.
func begun(m api.Mend, first []int) api.Mend {
	return changed(m, func(m *api.Mend) {
		for i := range m.Jobs {
			before := slices.Index(first, i)
			if before < 0 {
				before = len(first)
			}
			m.Jobs[i].After |= set(first[:before]...)
		}
	})
}

// P10.9: by a right order each job is truly done in time, after those that come before it, within what is told, and all cost no more than is told; all are done no sooner than is told if they take longest.
func TestWhatIsTrue(t *testing.T) {
	r := rand.New(rand.NewSource(111))
	cheaper := 0
	for i := range 150 {
		m := possible(r, i%(api.MendJobs+1))
		_, best, _ := mend.Best(m)
		for _, order := range [][]int{best, randomOrder(t, r, m), randomOrder(t, r, m)} {
			if !right(m, order) {
				t.Errorf("Check %+v %v", m, order)
			}
			times, most := must(mend.Times(m, order))(t), must(cost(forced(m, order)))(t)
			for range 5 {
				truth, coins := truly(r, m), 0
				for at, minute := range done(m, order, truth) {
					j := m.Jobs[order[at]]
					coins += j.Cost * max(0, minute-j.Soft)
					if minute > j.By || minute < times[at].Lo || minute > times[at].Hi || j.After&^set(order[:at]...) != 0 {
						t.Errorf("%+v %v %v: %v, told %v", m, order, truth, minute, times[at])
					}
				}
				if coins > most {
					t.Errorf("%+v %v %v: %v, told %v", m, order, truth, coins, most)
				}
				if coins < most {
					cheaper++
				}
			}
		}
	}
	if cheaper < 100 {
		t.Error("too few cost less than is told for a test", cheaper)
	}
}

// P10.9: both ends of what is told are those of a truth.
func TestBothEnds(t *testing.T) {
	r := rand.New(rand.NewSource(112))
	for range 300 {
		m := large(r)
		order := r.Perm(len(m.Jobs))
		var shortest, longest []int
		for _, j := range m.Jobs {
			shortest, longest = append(shortest, j.Minutes.Lo), append(longest, j.Minutes.Hi)
		}
		least, most := must(mend.Times(taking(m, shortest), order))(t), must(mend.Times(taking(m, longest), order))(t)
		for i, s := range must(mend.Times(m, order))(t) {
			if least[i] != span(s.Lo, s.Lo) || most[i] != span(s.Hi, s.Hi) {
				t.Errorf("%+v %v: %v %v %v", m, order, s, least[i], most[i])
			}
		}
	}
}

// P10.2, P10.4 to P10.6, P10.9: as many orders are right as are told, none costs less than the best one, or as much and comes before it, or is done sooner than is told; and all first jobs, and no others, are first.
func TestAllOrders(t *testing.T) {
	r := rand.New(rand.NewSource(113))
	found := 0
	for i := range 40 {
		m := possible(r, i%(api.MendJobs+1))
		a := ask(m)
		least, best, _ := mend.Best(m)
		n, first, until := 0, 0, 1<<30
		for _, order := range orders(len(m.Jobs)) {
			if !right(m, order) {
				continue
			}
			n++
			coins, e := cost(forced(m, order))
			if e != api.OK || coins < least || coins == least && slices.Compare(order, best) < 0 {
				t.Errorf("Best %+v: %v %v, but %v %v %v", m, least, best, coins, order, e)
			}
			last := 0
			for _, s := range must(mend.Times(m, order))(t) {
				last = s.Hi
			}
			until = min(until, last)
			if len(order) > 0 {
				first |= set(order[0])
			}
		}
		if a.count != so(n) || a.first != so(first) || a.until != so(until) || !right(m, best) || must(cost(forced(m, best)))(t) != least {
			t.Errorf("%+v: %+v, not %v %v %v", m, a, n, first, until)
		}
		if n > 1 && least > 0 && first != 1<<len(m.Jobs)-1 {
			found++
		}
	}
	if found < 10 {
		t.Error("too few have several orders for a test", found)
	}
}

// P10.7, P10.9: of the jobs that are left each one has to be; no fewer can be, and as many of a lesser number cannot.
func TestEachHasToBe(t *testing.T) {
	r := rand.New(rand.NewSource(114))
	several := 0
	for range 120 {
		m := large(r)
		drop := must(mend.Drop(m))(t)
		if n := must(mend.Count(without(m, drop)))(t); n == 0 || drop>>len(m.Jobs) != 0 {
			t.Errorf("%+v: %v %v", m, drop, n)
		}
		if again := must(mend.Drop(without(m, drop)))(t); again != 0 {
			t.Errorf("%+v: %v, then %v", m, drop, again)
		}
		many := bits.OnesCount(uint(drop))
		for left := range 1 << len(m.Jobs) {
			fewer := bits.OnesCount(uint(left)) < many || bits.OnesCount(uint(left)) == many && left < drop
			if n := must(mend.Count(without(m, left)))(t); fewer && n > 0 {
				t.Errorf("%+v: %v, but %v %v", m, drop, left, n)
			}
		}
		if many > 1 {
			several++
		}
	}
	if several < 20 {
		t.Error("too few have several that must be left for a test", several)
	}
}

// P10.3, P10.9: an order is right if jobs take longer by what is told, and not by more.
func TestSlackIsAll(t *testing.T) {
	r := rand.New(rand.NewSource(115))
	found := 0
	for i := range 200 {
		m := possible(r, 1+i%api.MendJobs)
		order := randomOrder(t, r, m)
		minutes := must(mend.Slack(m, order))(t)
		longest := 0
		for _, j := range m.Jobs {
			longest = max(longest, j.Minutes.Hi)
		}
		for more := range api.MendLong - longest + 1 {
			if right(longer(m, more), order) != (more <= minutes) {
				t.Errorf("%+v %v: %v, %v", m, order, minutes, more)
			}
			if more <= minutes {
				if s := must(mend.Slack(longer(m, more), order))(t); s != minutes-more && minutes < api.MendLong {
					t.Errorf("%+v %v: %v, but %v after %v", m, order, minutes, s, more)
				}
			}
		}
		if minutes > 0 && minutes < api.MendLong {
			found++
		}
	}
	if found < 50 {
		t.Error("too few can take longer for a test", found)
	}
}

// easier returns a mend of which a job takes less, may be begun sooner, must be done later, or should be.
func easier(r *rand.Rand, m api.Mend) api.Mend {
	return changed(m, func(m *api.Mend) {
		j := &m.Jobs[r.Intn(len(m.Jobs))]
		switch r.Intn(5) {
		case 0:
			j.Minutes.Hi = max(j.Minutes.Lo, j.Minutes.Hi-1-r.Intn(3))
		case 1:
			less := r.Intn(j.Minutes.Lo)
			j.Minutes = span(j.Minutes.Lo-less, j.Minutes.Hi-less)
		case 2:
			j.From = r.Intn(j.From + 1)
		case 3:
			j.By = min(api.MendHour, j.By+r.Intn(20))
		case 4:
			j.Soft = min(api.MendHour, j.Soft+r.Intn(20))
		}
	})
}

// P10.9, P2 of the document: if something is easier no order costs more, and each right one is right, and can take as much longer; nothing is done later, and no more must be left.
func TestEasier(t *testing.T) {
	r := rand.New(rand.NewSource(116))
	better := 0
	for i := range 400 {
		m := possible(r, 1+i%api.MendJobs)
		other := easier(r, m)
		a, b := ask(m), ask(other)
		before, _ := cost(m)
		after, e := cost(other)
		if e != api.OK || after > before || b.count.result < a.count.result || b.until.result > a.until.result || a.first.result&^b.first.result != 0 || b.drop != so(0) {
			t.Errorf("%+v\n%+v\n%+v\n%+v", m, other, a, b)
		}
		for range 3 {
			order := randomOrder(t, r, m)
			slack, now := must(mend.Slack(m, order))(t), resultOf(mend.Slack(other, order))
			if !right(other, order) || now.e != api.OK || now.result < slack {
				t.Errorf("%+v %+v %v: %v %v", m, other, order, slack, now)
			}
			if one, two := must(cost(forced(m, order)))(t), must(cost(forced(other, order)))(t); two > one {
				t.Errorf("%+v %+v %v: %v %v", m, other, order, one, two)
			}
		}
		if a != b {
			better++
		}
	}
	if better < 100 {
		t.Error("too few are better for a test", better)
	}
	for range 150 {
		m := large(r)
		before, after := must(mend.Drop(m))(t), must(mend.Drop(easier(r, m)))(t)
		if bits.OnesCount(uint(after)) > bits.OnesCount(uint(before)) {
			t.Errorf("%+v: %v %v", m, before, after)
		}
	}
}

// renumbered returns a mend whose jobs and kinds have other numbers.
func renumbered(m api.Mend, job, kind []int) api.Mend {
	other := of(make([]int, len(m.Setup)), make([]api.MendJob, len(m.Jobs))...)
	for i, minutes := range m.Setup {
		other.Setup[kind[i]] = minutes
	}
	for i, j := range m.Jobs {
		j.Kind, j.After = kind[j.Kind], numberedSet(j.After, job)
		other.Jobs[job[i]] = j
	}
	return other
}

// numberedSet returns a set of jobs by their other numbers.
func numberedSet(jobs int, number []int) int {
	other := 0
	for job, n := range number {
		other |= jobs >> job & 1 << n
	}
	return other
}

// P10.9, P11 of the document: if jobs, or kinds, are numbered otherwise as many orders are right, and the best costs as much; what is told of an order is told of the same one.
func TestOtherNumbers(t *testing.T) {
	r := rand.New(rand.NewSource(117))
	for i := range 300 {
		m := large(r)
		if i%2 == 0 {
			m = possible(r, i%(api.MendJobs+1))
		}
		number := r.Perm(len(m.Jobs))
		n := renumbered(m, number, r.Perm(len(m.Setup)))
		a, b := ask(m), ask(n)
		one, e := cost(m)
		two, d := cost(n)
		if a.count != b.count || a.until != b.until || one != two || e != d || b.first != so(numberedSet(a.first.result, number)) || bits.OnesCount(uint(a.drop.result)) != bits.OnesCount(uint(b.drop.result)) {
			t.Errorf("%+v %+v: %+v %+v", m, n, a, b)
		}
		order := r.Perm(len(m.Jobs))
		var same []int
		for _, job := range order {
			same = append(same, number[job])
		}
		v, w := bothOf(mend.Check(m, order)), bothOf(mend.Check(n, same))
		if v.e == api.OK {
			v.result[0] = number[v.result[0]]
		}
		if v != w || resultOf(mend.Slack(m, order)) != resultOf(mend.Slack(n, same)) || !slices.Equal(must(mend.Times(m, order))(t), must(mend.Times(n, same))(t)) {
			t.Errorf("%+v %+v %v: %v %v", m, n, order, v, w)
		}
	}
}

// P10.9: if kinds alone have other numbers nothing at all is told otherwise.
func TestOtherKinds(t *testing.T) {
	r := rand.New(rand.NewSource(118))
	for range 150 {
		m := large(r)
		var same []int
		for i := range m.Jobs {
			same = append(same, i)
		}
		if a, b := ask(m), ask(renumbered(m, same, r.Perm(len(m.Setup)))); a != b {
			t.Errorf("%+v: %+v %+v", m, a, b)
		}
	}
}

// P11 of the document: the same mend is told the same, however often it is asked.
func TestAskedAgain(t *testing.T) {
	r := rand.New(rand.NewSource(119))
	for range 40 {
		m := large(r)
		a := ask(m)
		for range 3 {
			if b := ask(m); a != b {
				t.Errorf("%+v: %+v %+v", m, a, b)
			}
		}
	}
}

package mend_test

import (
	"fmt"
	"math/rand"
	"slices"
	"testing"

	"lapworks/api"
	"lapworks/mend"
)

func span(lo, hi int) api.Span { return api.Span{Lo: lo, Hi: hi} }

// list returns what is written as a list.
func list[T any](all ...T) []T { return all }

// set returns the set of some jobs.
func set(jobs ...int) int {
	all := 0
	for _, job := range jobs {
		all |= 1 << job
	}
	return all
}

// job returns a job that takes from lo to hi minutes, after some others.
func job(kind, lo, hi, from, soft, by, cost int, after ...int) api.MendJob {
	return api.MendJob{Kind: kind, Minutes: span(lo, hi), From: from, Soft: soft, By: by, Cost: cost, After: set(after...)}
}

// easy returns a job that can be done at any time, and costs nothing.
func easy(kind, lo, hi int, after ...int) api.MendJob {
	return job(kind, lo, hi, 0, api.MendHour, api.MendHour, 0, after...)
}

// of returns a mend.
func of(setup []int, jobs ...api.MendJob) api.Mend { return api.Mend{Setup: setup, Jobs: jobs} }

// exampleM and exampleL are the mends of the chapter's examples.
func exampleM() api.Mend {
	return of(list(2, 3), job(0, 3, 4, 0, 8, 10, 2), job(1, 2, 3, 0, 9, 20, 1, 0), job(0, 1, 2, 4, 7, 15, 3))
}

func exampleL() api.Mend {
	return changed(exampleM(), func(m *api.Mend) { m.Jobs[1].By = 13 })
}

// copied returns the same mend in memory of its own.
func copied(m api.Mend) api.Mend { return of(slices.Clone(m.Setup), slices.Clone(m.Jobs)...) }

// changed returns a mend with something changed in it.
func changed(m api.Mend, change func(m *api.Mend)) api.Mend {
	m = copied(m)
	change(&m)
	return m
}

// equal returns whether mends are the same.
func equal(a, b api.Mend) bool {
	return slices.Equal(a.Setup, b.Setup) && slices.Equal(a.Jobs, b.Jobs)
}

// forced returns a mend in which each job comes after all that are before it in an order.
func forced(m api.Mend, order []int) api.Mend {
	return changed(m, func(m *api.Mend) {
		for i, job := range order {
			m.Jobs[job].After = set(order[:i]...)
		}
	})
}

// taking returns a mend of which it is known how many minutes each job takes.
func taking(m api.Mend, minutes []int) api.Mend {
	return changed(m, func(m *api.Mend) {
		for i, n := range minutes {
			m.Jobs[i].Minutes = span(n, n)
		}
	})
}

// without returns a mend without the jobs of a set. The others have new numbers, and nobody's After names those that are left.
func without(m api.Mend, left int) api.Mend {
	other := of(m.Setup)
	number := map[int]int{}
	for i := range m.Jobs {
		if left>>i&1 == 0 {
			number[i] = len(number)
		}
	}
	for i, j := range m.Jobs {
		if left>>i&1 == 1 {
			continue
		}
		after := 0
		for old, now := range number {
			after |= j.After >> old & 1 << now
		}
		j.After = after
		other.Jobs = append(other.Jobs, j)
	}
	return other
}

// randomMend returns a mend of so many jobs, whose By are before a minute or soon after it, and whose Minutes are no wider than wide. It has few After, or many if it is strict.
func randomMend(r *rand.Rand, jobs, by, wide int, strict bool) api.Mend {
	m := of(nil)
	for range 1 + r.Intn(api.MendKinds) {
		m.Setup = append(m.Setup, r.Intn(5))
	}
	place := r.Perm(jobs)
	for i := range jobs {
		lo := 1 + r.Intn(5)
		j := job(r.Intn(len(m.Setup)), lo, min(api.MendLong, lo+r.Intn(wide+1)), 0, r.Intn(by), min(api.MendHour, by/2+r.Intn(by)), r.Intn(4))
		if r.Intn(3) == 0 {
			j.From = r.Intn(by)
		}
		for other := range jobs {
			// Mostly the After can all be kept together.
			if (place[other] < place[i] || other != i && r.Intn(20) == 0) && (strict && r.Intn(2) == 0 || r.Intn(5) == 0) {
				j.After |= 1 << other
			}
		}
		m.Jobs = append(m.Jobs, j)
	}
	return m
}

// possible returns a mend of so many jobs of which an order is right.
func possible(r *rand.Rand, jobs int) api.Mend {
	for range 10000 {
		m := randomMend(r, jobs, 10+8*jobs, 3, false)
		if n, _ := mend.Count(m); n > 0 {
			return m
		}
	}
	panic("no order of many mends is right")
}

// large returns a mend with as many jobs as there can be, or few fewer.
func large(r *rand.Rand) api.Mend {
	jobs := api.MendJobs - r.Intn(3)
	return randomMend(r, jobs, 4+r.Intn(16*jobs), 4, r.Intn(2) == 0)
}

// truly returns how many minutes each job of a mend truly takes.
func truly(r *rand.Rand, m api.Mend) []int {
	var minutes []int
	for _, j := range m.Jobs {
		minutes = append(minutes, j.Minutes.Lo+r.Intn(j.Minutes.Hi-j.Minutes.Lo+1))
	}
	return minutes
}

// outcome is a result with its error.
type outcome[T any] struct {
	result T
	e      api.Errno
}

// so returns a result without an error.
func so[T any](result T) outcome[T] { return outcome[T]{result, api.OK} }

// resultOf returns a result and its error as one thing.
func resultOf[T any](result T, e api.Errno) outcome[T] { return outcome[T]{result, e} }

// bothOf returns two results and their error as one thing.
func bothOf(one, two int, e api.Errno) outcome[[2]int] { return outcome[[2]int]{[2]int{one, two}, e} }

// plannedOf returns an order and what it costs, written out, and their error as one thing.
func plannedOf(cost int, order []int, e api.Errno) outcome[string] {
	return resultOf(fmt.Sprint(cost, order), e)
}

// must returns what takes a result that has no error.
func must[T any](result T, e api.Errno) func(t *testing.T) T {
	return func(t *testing.T) T {
		t.Helper()
		if e != api.OK {
			t.Fatal(e)
		}
		return result
	}
}

// told is all that is told of a mend, but for its orders.
type told struct {
	count, until, first, drop outcome[int]
	best                      outcome[string]
}

// ask returns all that is told of a mend, but for its orders.
func ask(m api.Mend) told {
	return told{count: resultOf(mend.Count(m)), until: resultOf(mend.Until(m)), first: resultOf(mend.First(m)), drop: resultOf(mend.Drop(m)), best: plannedOf(mend.Best(m))}
}

// cost returns what the best order of a mend costs.
func cost(m api.Mend) (int, api.Errno) {
	n, _, e := mend.Best(m)
	return n, e
}

// right returns whether an order is.
func right(m api.Mend, order []int) bool {
	_, _, e := mend.Check(m, order)
	return e == api.ErrNone
}

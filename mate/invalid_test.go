package mate_test

import (
	"math"
	"slices"
	"testing"

	"lapworks/api"
	"lapworks/mate"
)

// odd returns numbers, many of which are out of every range.
func odd() []int {
	return list(math.MinInt, math.MinInt+1, -64, -1, 0, 1, 2, 3, 4, 5, 6, 8, 9, 16, 17, 63, 64, 100, 101, math.MaxInt)
}

// refused tests that nothing is told of mates but an error, whatever else is asked for.
func refused(t *testing.T, m api.Mates, want api.Errno) {
	t.Helper()
	for _, sure := range list(true, false) {
		refusedPut(t, m, sure, want)
	}
	for _, a := range odd() {
		refusedPerson(t, m, a, want)
		for _, b := range list(-1, 0, 1, 5, 6, math.MaxInt) {
			refusedTwo(t, m, a, b, want)
		}
	}
}

// refusedPut tests that nothing is told of how people are put together but an error.
func refusedPut(t *testing.T, m api.Mates, sure bool, want api.Errno) {
	t.Helper()
	none := put{written{"[]", 0, want}, outcome[int]{0, want}, outcome[[2]int]{e: want}, outcome[[2]int]{e: want}}
	if x := putBy(m, sure); x != none {
		t.Errorf("%+v %v: %+v", m, sure, x)
	}
}

func refusedPerson(t *testing.T, m api.Mates, person int, want api.Errno) {
	t.Helper()
	if always, perhaps, e := mate.Who(m, person); always != 0 || perhaps != 0 || e != want {
		t.Errorf("Who %+v %v: %v %v %v", m, person, always, perhaps, e)
	}
}

func refusedTwo(t *testing.T, m api.Mates, a, b int, want api.Errno) {
	t.Helper()
	if n, e := mate.Suits(m, a, b); n != 0 || e != want {
		t.Errorf("Suits %+v %v %v: %v %v", m, a, b, n, e)
	}
	if n, e := mate.Why(m, a, b); n != 0 || e != want {
		t.Errorf("Why %+v %v %v: %v %v", m, a, b, n, e)
	}
	refusedPlan(t, m, a, b, want)
}

func refusedPlan(t *testing.T, m api.Mates, a, b int, want api.Errno) {
	t.Helper()
	if n, plan, e := mate.Plan(m, a, b); n != 0 || len(plan) != 0 || e != want {
		t.Errorf("Plan %+v %v %v: %v %v %v", m, a, b, n, plan, e)
	}
}

// full returns mates with as much of all as there can be.
func full() api.Mates {
	all := rider(1<<api.MateHours-1, api.RestHours, api.RestHours, api.RestHours)
	m := of(api.MateHours, api.MateSpeed, slices.Repeat(list(person(0, api.MateSpeed, all)), api.MatePeople)...)
	for i := range m.People {
		m.People[i].Not = (1<<api.MatePeople - 1) &^ set(i)
	}
	return m
}

// empty returns mates with as little of all as there can be, but for the people.
func empty() api.Mates { return of(0, 0, make([]api.MatePerson, api.MatePeople)...) }

// bases returns valid mates of at least one person.
func bases() []api.Mates {
	return list(exampleM(), full(), empty(), of(0, 0, quick(0, 0)), of(3, 7, quick(100, 100), quick(0, 100, 0), person(1, 2, rider(set(2), 1, 2, 3), 0, 1)))
}

// badPeople returns mates of whom one thing of one person alone is not valid.
func badPeople(m api.Mates) []api.Mates {
	var all []api.Mates
	for i := range m.People {
		bad := func(change func(p *api.MatePerson)) {
			all = append(all, changed(m, func(m *api.Mates) { change(&m.People[i]) }))
		}
		for _, speed := range list(span(-1, 0), span(-1, -1), span(1, 0), span(100, 99), span(100, 101), span(101, 101), span(5, -5), span(math.MinInt, math.MaxInt), span(math.MaxInt, math.MinInt), span(math.MinInt, 0), span(0, math.MaxInt), span(math.MaxInt, math.MaxInt), span(math.MinInt, math.MinInt)) {
			bad(func(p *api.MatePerson) { p.Speed = speed })
		}
		// No set of people, one with somebody who is none, and one with this person.
		for _, n := range list(-1, -2, 1<<len(m.People), 1<<len(m.People)|1, 1<<62, math.MinInt, math.MaxInt, set(i), 1<<len(m.People)-1) {
			bad(func(p *api.MatePerson) { p.Not = n })
		}
		for _, n := range list(-1, -2, 1<<m.Hours, 1<<m.Hours|1, 1<<62, math.MinInt, math.MaxInt) {
			bad(func(p *api.MatePerson) { p.Rider.Out = n })
		}
		for _, n := range list(-1, api.RestHours+1, math.MinInt, math.MaxInt) {
			bad(func(p *api.MatePerson) { p.Rider.Total = n })
			bad(func(p *api.MatePerson) { p.Rider.Run = n })
			bad(func(p *api.MatePerson) { p.Rider.Off = n })
		}
	}
	return all
}

// notValid returns mates that are not valid.
func notValid() []api.Mates {
	all := list(of(0, 0, slices.Repeat(list(quick(1, 1)), api.MatePeople+1)...), of(0, 0, make([]api.MatePerson, 1<<10)...))
	for _, m := range append(bases(), of(0, 0)) {
		for _, n := range list(-1, api.MateHours+1, api.RestHours, api.RestHours+1, 64, math.MinInt, math.MaxInt) {
			all = append(all, changed(m, func(m *api.Mates) { m.Hours = n }))
		}
		for _, n := range list(-1, api.MateSpeed+1, math.MinInt, math.MaxInt) {
			all = append(all, changed(m, func(m *api.Mates) { m.Apart = n }))
		}
		all = append(all, badPeople(m)...)
	}
	// For fewer hours, or with fewer people, what was valid is not.
	return append(all, changed(full(), func(m *api.Mates) { m.Hours-- }), changed(full(), func(m *api.Mates) { m.People = m.People[:5] }))
}

// P12.1 to P12.6, R1, R2: whatever else is asked for, mates that are not valid come first.
func TestNotValid(t *testing.T) {
	for _, m := range notValid() {
		refused(t, m, api.ErrArg)
	}
}

// P12.1, P12.2, P12.6, R1, R2: people who are none, and one person twice. That two suit never comes behind that.
func TestOutOfRange(t *testing.T) {
	for _, m := range append(bases(), of(0, 0), exampleN()) {
		isPerson := func(n int) bool { return n >= 0 && n < len(m.People) }
		for _, a := range odd() {
			if !isPerson(a) {
				refusedPerson(t, m, a, api.ErrRange)
			} else if _, _, e := mate.Who(m, a); e != api.OK {
				t.Error(m, a, e)
			}
			for _, b := range odd() {
				if !isPerson(a) || !isPerson(b) || a == b {
					refusedTwo(t, m, a, b, api.ErrRange)
				} else if _, e := mate.Suits(m, a, b); e != api.OK {
					t.Error(m, a, b, e)
				}
			}
		}
	}
}

// P12.6, R2: of two who never suit there is no plan, for whatever reason.
func TestNoPlan(t *testing.T) {
	short := rider(0, 1, 1, 0)
	for _, m := range list(of(2, 0, quick(1, 1), quick(2, 2)), of(2, 9, quick(1, 1, 1), quick(2, 2)), of(2, 9, quick(1, 1), quick(2, 2, 0)), of(3, 9, person(1, 1, short), person(2, 2, short)), full()) {
		refusedPlan(t, m, 0, 1, api.ErrRefuse)
		refusedPlan(t, m, 1, 0, api.ErrRefuse)
		refusedPlan(t, m, 1, 1, api.ErrRange)
		refusedPlan(t, m, 1, 6, api.ErrRange)
		refusedPlan(t, changed(m, func(m *api.Mates) { m.Apart = -1 }), 0, 1, api.ErrArg)
	}
}

// P12.1 to P12.6, R7: the limits themselves are valid, and so is 0.
func TestLimits(t *testing.T) {
	most := ask(full())
	if most.suits[0][5] != so(api.MateNever) || most.why[4][5] != so(api.MateNot|api.MateRest) || most.who[5] != so([2]int{0, 0}) || most.surely != most.maybe || most.maybe.alone != so([2]int{63, 63}) {
		t.Errorf("%+v", most)
	}
	least := ask(empty())
	if least.suits[0][5] != so(api.MateAlways) || least.why[4][5] != so(0) || least.who[5] != so([2]int{31, 31}) || least.surely != least.maybe || least.maybe.match != writtenSo(0, 1, 0, 3, 2, 5, 4) {
		t.Errorf("%+v", least)
	}
	if s := planOf(mate.Plan(empty(), 4, 5)); s != writtenSo(0) {
		t.Error(s)
	}
	long := of(api.MateHours, api.MateSpeed, person(0, 0, rider(set(7), 16, 16, 16)), person(100, 100, rider(set(0), 16, 16, 16)))
	if s := planOf(mate.Plan(long, 0, 1)); s != writtenSo(1, 0, 0, 0, 0, 0, 0, 0, 1) {
		t.Error(s)
	}
}

// P1 of the document: no argument leads to a panic.
func TestAnyArguments(t *testing.T) {
	for _, a := range odd() {
		for _, b := range odd() {
			wild := api.MatePerson{Speed: span(a, b), Rider: rider(b, a, a, b), Not: b}
			for _, m := range list(
				of(a, b, quick(1, 1), quick(2, 2)), of(a, 0), of(4, 4, wild), of(4, 4, quick(1, 1), wild), of(8, 100, person(a, a, rider(0, a, b, a)), person(b, b, rider(0, b, b, a))), of(2, 2, quick(1, 1), api.MatePerson{Not: a}, api.MatePerson{Rider: rider(b, 1, 1, 1)}), exampleM(),
			) {
				ask(m)
				mate.Suits(m, a, b)
				mate.Why(m, a, b)
				mate.Who(m, a)
				mate.Plan(m, a, b)
				mate.Plan(m, 0, b)
			}
		}
	}
	ask(of(8, 8, make([]api.MatePerson, 1<<16)...))
}

// R3: no people are nobody, whether the list is nil or empty.
func TestNilAndEmpty(t *testing.T) {
	none, some := api.Mates{Hours: 3, Apart: 4}, api.Mates{Hours: 3, Apart: 4, People: []api.MatePerson{}}
	if a, b := ask(none), ask(some); a != b || a.maybe != (put{writtenSo(0), so(1), so([2]int{}), so([2]int{})}) || a.surely != a.maybe || a.suits[0][1].e != api.ErrRange || a.who[0].e != api.ErrRange {
		t.Errorf("%+v %+v", a, b)
	}
	if x := ask(api.Mates{}); x != ask(none) {
		t.Errorf("%+v", x)
	}
}

// P12.7, R4: mates are as they were, also what is behind their list in the same memory, and what is told is the caller's own.
func TestMemory(t *testing.T) {
	people := append(exampleM().People, quick(9, 9, 3))
	m := of(4, 10, people[:4]...)
	was, before := copied(m), ask(m)
	for range 2 {
		for a, b := range list(1, 0, 3, 2) {
			match, _, _ := mate.Match(m, a%2 == 0)
			_, plan, _ := mate.Plan(m, a, b)
			for _, told := range list(match[:cap(match)], plan[:cap(plan)]) {
				for i := range told {
					told[i] = 99
				}
			}
		}
	}
	one, _, _ := mate.Match(m, true)
	other, _, _ := mate.Match(m, true)
	other[0] = 99
	if !slices.Equal(one, list(2, 3, 0, 1)) || ask(m) != before {
		t.Error("shared", one, ask(m))
	}
	if !equal(m, was) || people[4] != quick(9, 9, 3) {
		t.Error("changed", m, people)
	}
}

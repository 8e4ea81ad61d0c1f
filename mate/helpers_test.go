package mate_test

import (
	"fmt"
	"math/rand"
	"slices"
	"testing"

	"lapworks/api"
	"lapworks/mate"
)

func span(lo, hi int) api.Span { return api.Span{Lo: lo, Hi: hi} }

// list returns what is written as a list.
func list[T any](all ...T) []T { return all }

// set returns the set of some people, or hours.
func set(numbers ...int) int {
	all := 0
	for _, n := range numbers {
		all |= 1 << n
	}
	return all
}

// has returns whether a number is in a set.
func has(set, number int) bool { return set>>number&1 == 1 }

func rider(out, total, run, off int) api.RestRider {
	return api.RestRider{Out: out, Total: total, Run: run, Off: off}
}

// free returns a rider who can ride in all hours.
func free() api.RestRider { return rider(0, api.RestHours, api.RestHours, 0) }

// person returns somebody who does not ride with some others.
func person(lo, hi int, r api.RestRider, not ...int) api.MatePerson {
	return api.MatePerson{Speed: span(lo, hi), Rider: r, Not: set(not...)}
}

// quick returns somebody of a speed who can ride in all hours.
func quick(lo, hi int, not ...int) api.MatePerson { return person(lo, hi, free(), not...) }

// of returns mates.
func of(hours, apart int, people ...api.MatePerson) api.Mates {
	return api.Mates{Hours: hours, Apart: apart, People: people}
}

// exampleM and exampleN are the mates of the chapter's examples.
func exampleM() api.Mates {
	return of(4, 10, person(50, 52, rider(0, 4, 4, 0)), person(54, 56, rider(set(0), 2, 2, 0)), person(60, 60, rider(set(0), 4, 4, 0)), person(48, 58, rider(0, 4, 4, 0), 0))
}

func exampleN() api.Mates { return changed(exampleM(), func(m *api.Mates) { m.Apart = 5 }) }

// drawn returns mates, so many, of whom just such can ride together, each in each truth.
func drawn(people int, lines ...[2]int) api.Mates {
	m := of(0, 0, slices.Repeat(list(quick(7, 7)), people)...)
	for i := range people {
		m.People[i].Not = set(0, 1, 2, 3, 4, 5) & (1<<people - 1) &^ set(i)
	}
	for _, l := range lines {
		m.People[l[0]].Not &^= set(l[1])
		m.People[l[1]].Not &^= set(l[0])
	}
	return m
}

// lines returns all that can be drawn between so many people.
func lines(people int) [][2]int {
	var all [][2]int
	for a := range people {
		for b := range a {
			all = append(all, [2]int{b, a})
		}
	}
	return all
}

// chosen returns those of some lines whose numbers are in a set.
func chosen(all [][2]int, set int) [][2]int {
	var some [][2]int
	for i, l := range all {
		if has(set, i) {
			some = append(some, l)
		}
	}
	return some
}

// copied returns the same mates in memory of their own.
func copied(m api.Mates) api.Mates { return of(m.Hours, m.Apart, slices.Clone(m.People)...) }

// equal returns whether mates are the same.
func equal(m, other api.Mates) bool {
	return m.Hours == other.Hours && m.Apart == other.Apart && slices.Equal(m.People, other.People)
}

// changed returns mates with something changed in them.
func changed(m api.Mates, change func(m *api.Mates)) api.Mates {
	m = copied(m)
	change(&m)
	return m
}

// randomSpeed returns a speed that is often known well, and somewhere near to those of others.
func randomSpeed(r *rand.Rand, wide int) api.Span {
	lo := 40 + r.Intn(12)
	return span(lo, lo+r.Intn(wide+1))
}

// randomRider returns a rider who can ride in most of so many hours.
func randomRider(r *rand.Rand, hours int) api.RestRider {
	out := r.Intn(1<<hours) & r.Intn(1<<hours)
	return rider(out, hours/3+r.Intn(hours+1), 1+r.Intn(4), r.Intn(4)/(1+r.Intn(3)))
}

// randomPerson returns the one of so many people who has a number.
func randomPerson(r *rand.Rand, hours, people, number int) api.MatePerson {
	not := r.Intn(1<<people) & r.Intn(1<<people) & r.Intn(1<<people) &^ set(number)
	return api.MatePerson{Speed: randomSpeed(r, 4), Rider: randomRider(r, hours), Not: not}
}

// randomMates returns so many mates for so many hours.
func randomMates(r *rand.Rand, people, hours int) api.Mates {
	m := of(hours, r.Intn(12))
	for number := range people {
		m.People = append(m.People, randomPerson(r, hours, people, number))
	}
	return m
}

// with returns mates with somebody more.
func with(m api.Mates, one api.MatePerson) api.Mates {
	return changed(m, func(m *api.Mates) { m.People = append(m.People, one) })
}

// without returns mates without somebody.
func without(m api.Mates, gone int) api.Mates {
	return changed(m, func(m *api.Mates) {
		m.People = slices.Delete(m.People, gone, gone+1)
		for i := range m.People {
			not := m.People[i].Not
			m.People[i].Not = not&(1<<gone-1) | not>>(gone+1)<<gone
		}
	})
}

// truly returns how fast all are in a truth.
func truly(r *rand.Rand, m api.Mates) []int {
	var speeds []int
	for _, p := range m.People {
		speeds = append(speeds, p.Speed.Lo+r.Intn(p.Speed.Hi-p.Speed.Lo+1))
	}
	return speeds
}

// measured returns mates of whom it is known how fast they are.
func measured(m api.Mates, speeds []int) api.Mates {
	return changed(m, func(m *api.Mates) {
		for i, n := range speeds {
			m.People[i].Speed = span(n, n)
		}
	})
}

// outcome is a result with its error.
type outcome[T any] struct {
	result T
	e      api.Errno
}

// so returns a result without an error.
func so[T any](result T) outcome[T] { return outcome[T]{result, api.OK} }

// resultOf returns a result and its error as one thing.
func resultOf[T any](result T, e api.Errno) outcome[T] { return outcome[T]{result, e} }

// pairOf returns two numbers as one result.
func pairOf(a, b int, e api.Errno) outcome[[2]int] { return outcome[[2]int]{[2]int{a, b}, e} }

// written is a list, written out, and the number that is told with it.
type written struct {
	list   string
	number int
	e      api.Errno
}

// matchOf returns a match and what is told of it as one thing.
func matchOf(list []int, alone int, e api.Errno) written {
	return written{fmt.Sprint(list), alone, e}
}

// planOf returns a plan and what is told of it as one thing.
func planOf(changes int, plan []int, e api.Errno) written {
	return written{fmt.Sprint(plan), changes, e}
}

// writtenSo returns a list and a number without an error as one thing.
func writtenSo(number int, list ...int) written { return written{fmt.Sprint(list), number, api.OK} }

// must returns what takes a result that has no error.
func must[T any](result T, e api.Errno) func(t *testing.T) T {
	return func(t *testing.T) T {
		t.Helper()
		if e != api.OK {
			t.Fatal(e)
		}
		return result
	}
}

// put is all that is told of how people are put together, surely or perhaps.
type put struct {
	match        written
	count        outcome[int]
	alone, proof outcome[[2]int]
}

// putBy returns all that is told of how people are put together.
func putBy(m api.Mates, sure bool) put {
	return put{matchOf(mate.Match(m, sure)), resultOf(mate.Count(m, sure)), pairOf(mate.Alone(m, sure)), pairOf(mate.Proof(m, sure))}
}

// told is all that is told of mates, but for plans.
type told struct {
	suits, why    [api.MatePeople][api.MatePeople]outcome[int]
	who           [api.MatePeople]outcome[[2]int]
	surely, maybe put
}

// ask returns all that is told of mates, but for plans.
func ask(m api.Mates) told {
	x := told{surely: putBy(m, true), maybe: putBy(m, false)}
	for a := range x.suits {
		for b := range x.suits {
			x.suits[a][b], x.why[a][b] = resultOf(mate.Suits(m, a, b)), resultOf(mate.Why(m, a, b))
		}
		x.who[a] = pairOf(mate.Who(m, a))
	}
	return x
}

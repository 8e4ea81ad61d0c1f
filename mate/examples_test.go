package mate_test

import (
	"testing"

	"lapworks/api"
	"lapworks/mate"
	"lapworks/rest"
)

// twoOf returns two people, by how much they may differ, for so many hours.
func twoOf(hours, apart int, a, b api.MatePerson) api.Mates { return of(hours, apart, a, b) }

// P12.1: the chapter's examples, with the two in either order.
func TestExamplesOfTwo(t *testing.T) {
	for _, x := range []struct {
		m          api.Mates
		a, b       int
		suits, why int
	}{
		{exampleM(), 0, 1, 2, 0}, {exampleM(), 2, 3, 1, 0}, {exampleM(), 0, 3, 0, api.MateNot}, {exampleM(), 1, 2, 0, api.MateRest}, {exampleN(), 0, 2, 0, api.MateFast},
	} {
		for _, two := range list([2]int{x.a, x.b}, [2]int{x.b, x.a}) {
			if s := resultOf(mate.Suits(x.m, two[0], two[1])); s != so(x.suits) {
				t.Error("Suits", x.m, two, s)
			}
			if s := resultOf(mate.Why(x.m, two[0], two[1])); s != so(x.why) {
				t.Error("Why", x.m, two, s)
			}
		}
	}
}

// P12.1: speeds that differ by just as much as they may, and by one more; whoever does not ride with whom; hours that go together, or not; and several of these at once.
func TestSuitsAndWhy(t *testing.T) {
	half := rider(0, 2, 16, 0)
	for i, x := range []struct {
		m          api.Mates
		suits, why int
	}{
		{twoOf(0, 0, quick(5, 5), quick(5, 5)), 2, 0}, {twoOf(0, 0, quick(5, 5), quick(6, 6)), 0, api.MateFast}, {twoOf(0, 0, quick(5, 6), quick(6, 7)), 1, 0}, {twoOf(0, 0, quick(5, 6), quick(5, 6)), 1, 0}, {twoOf(0, 0, quick(5, 6), quick(7, 8)), 0, api.MateFast},
		{twoOf(0, 3, quick(5, 6), quick(7, 8)), 2, 0}, {twoOf(0, 2, quick(5, 6), quick(7, 8)), 1, 0}, {twoOf(0, 1, quick(5, 6), quick(7, 8)), 1, 0}, {twoOf(0, 3, quick(7, 8), quick(5, 6)), 2, 0}, {twoOf(0, 2, quick(7, 8), quick(5, 6)), 1, 0}, {twoOf(0, 0, quick(7, 8), quick(5, 6)), 0, api.MateFast},
		// One speed within the other one: both ends count.
		{twoOf(0, 4, quick(5, 10), quick(6, 7)), 2, 0}, {twoOf(0, 3, quick(5, 10), quick(6, 7)), 1, 0}, {twoOf(0, 4, quick(8, 9), quick(5, 10)), 2, 0}, {twoOf(0, 3, quick(8, 9), quick(5, 10)), 1, 0}, {twoOf(0, 100, quick(0, 100), quick(0, 100)), 2, 0}, {twoOf(0, 99, quick(0, 100), quick(0, 100)), 1, 0}, {twoOf(0, 99, quick(0, 0), quick(100, 100)), 0, api.MateFast}, {twoOf(0, 100, quick(0, 0), quick(100, 100)), 2, 0},
		{twoOf(0, 9, quick(5, 5, 1), quick(5, 5)), 0, api.MateNot}, {twoOf(0, 9, quick(5, 5), quick(5, 5, 0)), 0, api.MateNot}, {twoOf(0, 9, quick(5, 5, 1), quick(5, 5, 0)), 0, api.MateNot},
		// Two who each ride half of the hours have a plan, and none with an hour more, or an hour in which neither can.
		{twoOf(4, 0, person(5, 5, half), person(5, 5, half)), 2, 0}, {twoOf(5, 0, person(5, 5, half), person(5, 5, half)), 0, api.MateRest}, {twoOf(4, 0, person(5, 5, rider(set(3), 4, 4, 0)), person(5, 5, rider(set(3), 4, 4, 0))), 0, api.MateRest}, {twoOf(4, 0, person(5, 5, rider(set(3), 4, 4, 0)), person(5, 5, rider(set(2), 4, 4, 0))), 2, 0}, {twoOf(3, 0, person(5, 5, rider(0, 9, 1, 2)), person(5, 5, rider(0, 9, 1, 2))), 0, api.MateRest}, {twoOf(3, 0, person(5, 5, rider(0, 9, 1, 1)), person(5, 5, rider(0, 9, 1, 1))), 2, 0}, {twoOf(0, 0, person(5, 5, rider(0, 0, 0, 16)), person(5, 5, rider(0, 0, 0, 0))), 2, 0}, {twoOf(1, 0, person(5, 5, rider(0, 0, 0, 16)), person(5, 5, rider(0, 0, 0, 0))), 0, api.MateRest},
		// Whoever perhaps is too fast does not suit if something else is so.
		{twoOf(1, 0, quick(5, 6), quick(5, 6, 0)), 0, api.MateNot}, {twoOf(1, 0, person(5, 6, rider(1, 1, 1, 0)), person(5, 6, rider(1, 1, 1, 0))), 0, api.MateRest}, {twoOf(1, 0, quick(5, 6), quick(7, 7, 0)), 0, api.MateFast | api.MateNot}, {twoOf(1, 0, person(5, 6, rider(1, 1, 1, 0)), person(7, 7, rider(1, 1, 1, 0))), 0, api.MateFast | api.MateRest}, {twoOf(1, 0, person(5, 6, rider(1, 1, 1, 0)), person(5, 7, rider(1, 1, 1, 0), 0)), 0, api.MateNot | api.MateRest}, {twoOf(1, 0, person(5, 6, rider(1, 1, 1, 0), 1), person(7, 7, rider(1, 1, 1, 0))), 0, 7},
	} {
		if s := resultOf(mate.Suits(x.m, 0, 1)); s != so(x.suits) {
			t.Error("Suits", i, s)
		}
		if s := resultOf(mate.Why(x.m, 0, 1)); s != so(x.why) {
			t.Error("Why", i, s)
		}
	}
}

// P12.2: the chapter's examples; nobody suits themselves, and who always does also does perhaps.
func TestWho(t *testing.T) {
	for i, x := range []struct {
		m       api.Mates
		person  int
		who     [2]int
		meaning string
	}{
		{exampleM(), 0, [2]int{6, 6}, "1 and 2"}, {exampleM(), 2, [2]int{1, 9}, "0, and 0 and 3"}, {exampleM(), 1, [2]int{9, 9}, "0 and 3"}, {exampleM(), 3, [2]int{2, 6}, "1, and 1 and 2"},
		{exampleN(), 0, [2]int{0, 2}, "nobody, and 1"}, {exampleN(), 1, [2]int{0, 9}, "nobody, and 0 and 3"}, {exampleN(), 2, [2]int{0, 8}, "nobody, and 3"}, {exampleN(), 3, [2]int{0, 6}, "nobody, and 1 and 2"},
		{of(0, 0, quick(1, 1)), 0, [2]int{0, 0}, "nobody"}, {of(0, 0, quick(1, 1), quick(1, 2)), 0, [2]int{0, 2}, "nobody, and 1"}, {of(0, 0, quick(1, 1), quick(1, 1), quick(2, 2), quick(1, 1), quick(1, 1, 5), quick(1, 1)), 5, [2]int{11, 11}, "0, 1 and 3"},
	} {
		if s := pairOf(mate.Who(x.m, x.person)); s != so(x.who) {
			t.Error(i, s, x.meaning)
		}
	}
}

// P12.3: the chapter's examples; which of several best matches comes first, and how many there are.
func TestMatchAndCount(t *testing.T) {
	for i, x := range []struct {
		m     api.Mates
		sure  bool
		match written
		count int
	}{
		{exampleM(), true, writtenSo(0, 2, 3, 0, 1), 1}, {exampleM(), false, writtenSo(0, 1, 0, 3, 2), 2}, {exampleN(), true, writtenSo(4, -1, -1, -1, -1), 1}, {exampleN(), false, writtenSo(0, 1, 0, 3, 2), 1},
		{of(0, 0), true, writtenSo(0), 1}, {of(0, 0), false, writtenSo(0), 1}, {drawn(1), true, writtenSo(1, -1), 1}, {drawn(2), false, writtenSo(2, -1, -1), 1}, {drawn(2, lines(2)...), true, writtenSo(0, 1, 0), 1},
		// To be alone comes behind all people.
		{drawn(3, lines(3)...), true, writtenSo(1, 1, 0, -1), 3}, {drawn(3, [2]int{0, 2}, [2]int{1, 2}), true, writtenSo(1, 2, -1, 0), 2}, {drawn(3, [2]int{1, 2}), true, writtenSo(1, -1, 2, 1), 1}, {drawn(5, [2]int{0, 4}, [2]int{1, 4}, [2]int{2, 4}, [2]int{3, 4}), true, writtenSo(3, 4, -1, -1, -1, 0), 4},
		{drawn(4, lines(4)...), true, writtenSo(0, 1, 0, 3, 2), 3}, {drawn(5, lines(5)...), true, writtenSo(1, 1, 0, 3, 2, -1), 15}, {drawn(6, lines(6)...), true, writtenSo(0, 1, 0, 3, 2, 5, 4), 15},
		// Whoever is first does not take the first one if then more are left alone.
		{drawn(4, [2]int{0, 1}, [2]int{0, 2}, [2]int{1, 3}), true, writtenSo(0, 2, 3, 0, 1), 1}, {drawn(6, [2]int{0, 1}, [2]int{0, 5}, [2]int{1, 2}, [2]int{3, 4}), true, writtenSo(0, 5, 2, 1, 4, 3, 0), 1}, {drawn(6, [2]int{0, 1}, [2]int{1, 2}, [2]int{0, 2}, [2]int{3, 4}, [2]int{4, 5}, [2]int{3, 5}), true, writtenSo(2, 1, 0, -1, 4, 3, -1), 9}, {drawn(6, [2]int{0, 1}, [2]int{1, 2}, [2]int{0, 2}, [2]int{3, 4}, [2]int{4, 5}, [2]int{3, 5}, [2]int{2, 3}), true, writtenSo(0, 1, 0, 3, 2, 5, 4), 1},
	} {
		if s := matchOf(mate.Match(x.m, x.sure)); s != x.match {
			t.Error("Match", i, s)
		}
		if s := resultOf(mate.Count(x.m, x.sure)); s != so(x.count) {
			t.Error("Count", i, s)
		}
	}
}

// P12.4, P12.5: the chapter's examples; who is alone in some best match, and in each; who proves it, the fewest, and of several the least.
func TestAloneAndProof(t *testing.T) {
	for i, x := range []struct {
		m            api.Mates
		sure         bool
		alone, proof [2]int
	}{
		{exampleN(), true, [2]int{15, 15}, [2]int{0, 4}}, {exampleM(), true, [2]int{0, 0}, [2]int{0, 0}}, {exampleM(), false, [2]int{0, 0}, [2]int{0, 0}}, {exampleN(), false, [2]int{0, 0}, [2]int{0, 0}},
		{of(0, 0), true, [2]int{0, 0}, [2]int{0, 0}}, {drawn(1), true, [2]int{1, 1}, [2]int{0, 1}}, {drawn(2), true, [2]int{3, 3}, [2]int{0, 2}}, {drawn(2, lines(2)...), true, [2]int{0, 0}, [2]int{0, 0}}, {drawn(3, lines(3)...), true, [2]int{7, 0}, [2]int{0, 1}}, {drawn(3, [2]int{0, 2}), true, [2]int{2, 2}, [2]int{0, 1}}, {drawn(6, lines(6)...), false, [2]int{0, 0}, [2]int{0, 0}},
		// Of three who all want the same one two are left, and of four three; without this one all are on their own.
		{drawn(3, [2]int{0, 2}, [2]int{1, 2}), true, [2]int{3, 0}, [2]int{0, 1}}, {drawn(4, [2]int{0, 3}, [2]int{1, 3}, [2]int{2, 3}), true, [2]int{7, 0}, [2]int{8, 2}}, {drawn(5, [2]int{0, 2}, [2]int{1, 2}, [2]int{3, 2}, [2]int{4, 2}), true, [2]int{27, 0}, [2]int{4, 3}},
		// Two hubs: both have to be gone.
		{drawn(6, [2]int{0, 2}, [2]int{0, 3}, [2]int{0, 4}, [2]int{0, 5}, [2]int{1, 2}, [2]int{1, 3}, [2]int{1, 4}, [2]int{1, 5}), true, [2]int{60, 0}, [2]int{3, 2}}, {drawn(6, [2]int{5, 2}, [2]int{5, 3}, [2]int{5, 1}, [2]int{4, 0}), true, [2]int{14, 0}, [2]int{32, 2}},
		// Either of two hubs proves it, and so do both: the fewest are one of them, and the least is told.
		{drawn(6, [2]int{4, 0}, [2]int{4, 1}, [2]int{4, 5}, [2]int{5, 2}, [2]int{5, 3}), true, [2]int{15, 0}, [2]int{16, 2}},
		// Two odd groups, of which nobody has to be gone.
		{drawn(6, [2]int{0, 1}, [2]int{1, 2}, [2]int{0, 2}, [2]int{3, 4}, [2]int{4, 5}, [2]int{3, 5}), true, [2]int{63, 0}, [2]int{0, 2}},
	} {
		if s := pairOf(mate.Alone(x.m, x.sure)); s != so(x.alone) {
			t.Error("Alone", i, s)
		}
		if s := pairOf(mate.Proof(x.m, x.sure)); s != so(x.proof) {
			t.Error("Proof", i, s)
		}
	}
}

// P12.6: the chapter's examples; whoever is asked for first is the rider 0, and who suits perhaps has a plan.
func TestPlan(t *testing.T) {
	late := of(4, 0, person(5, 5, rider(set(0), 2, 2, 0)), person(5, 6, rider(set(3), 4, 4, 0)))
	for i, x := range []struct {
		m    api.Mates
		a, b int
		want written
	}{
		{exampleM(), 0, 1, writtenSo(0, 0, 0, 0, 0)}, {exampleM(), 0, 3, written{"[]", 0, api.ErrRefuse}}, {exampleM(), 3, 0, written{"[]", 0, api.ErrRefuse}}, {exampleM(), 1, 2, written{"[]", 0, api.ErrRefuse}}, {exampleN(), 0, 2, written{"[]", 0, api.ErrRefuse}},
		{exampleM(), 1, 0, writtenSo(0, 1, 1, 1, 1)}, {exampleM(), 2, 3, writtenSo(0, 1, 1, 1, 1)}, {exampleM(), 3, 2, writtenSo(0, 0, 0, 0, 0)},
		{late, 0, 1, writtenSo(1, 1, 1, 0, 0)}, {late, 1, 0, writtenSo(1, 0, 0, 0, 1)}, {of(0, 0, quick(1, 1), quick(1, 1)), 1, 0, writtenSo(0)},
	} {
		if s := planOf(mate.Plan(x.m, x.a, x.b)); s != x.want {
			t.Error(i, s)
		}
		if x.want.e != api.OK {
			continue
		}
		r := api.Rest{Hours: x.m.Hours, Riders: [2]api.RestRider{x.m.People[x.a].Rider, x.m.People[x.b].Rider}}
		if s := planOf(rest.Fewest(r)); s != x.want {
			t.Error("Fewest", i, s)
		}
	}
}

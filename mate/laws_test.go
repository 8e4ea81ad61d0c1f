package mate_test

import (
	"math/rand"
	"testing"

	"lapworks/api"
	"lapworks/mate"
	"lapworks/rest"
)

// large returns as many mates as there can be, or few fewer, for some hours.
func large(r *rand.Rand) api.Mates {
	return randomMates(r, api.MatePeople-r.Intn(4), r.Intn(api.MateHours+1))
}

// matched returns the best match that is told of mates, and how many are alone.
func matched(t *testing.T, m api.Mates, sure bool) (match []int, alone int) {
	t.Helper()
	match, alone, e := mate.Match(m, sure)
	if e != api.OK || len(match) != len(m.People) {
		t.Fatal(m, sure, match, alone, e)
	}
	return match, alone
}

// P12.8, P2 of the document: however fast all truly are, two who always suit do, two who never do do not, and whoever rides together by a sure match does.
func TestWhatIsTrue(t *testing.T) {
	r := rand.New(rand.NewSource(1211))
	doubts, couples := 0, 0
	for range 200 {
		m := large(r)
		x := ask(m)
		match, _ := matched(t, m, true)
		for range 4 {
			known := measured(m, truly(r, m))
			for a := range m.People {
				for b := range m.People {
					if a == b {
						continue
					}
					suits, why := suited(known, a, b)
					told := x.suits[a][b].result
					if told != api.MatePerhaps && told != suits || suits == api.MatePerhaps {
						t.Errorf("%+v %+v %v %v: %v, told %v", m, known, a, b, suits, told)
					}
					if reasons := x.why[a][b].result; reasons&^why != 0 {
						t.Errorf("%+v %+v %v %v: %v, told %v", m, known, a, b, why, reasons)
					}
					if told == api.MatePerhaps {
						doubts++
					}
					if match[a] == b {
						couples++
						if suits != api.MateAlways {
							t.Errorf("%+v %+v %v: %v %v", m, known, match, a, b)
						}
					}
				}
			}
		}
	}
	if doubts < 500 || couples < 200 {
		t.Error("too few for a test", doubts, couples)
	}
}

// P12.1, P12.2: whoever is asked for first, two suit just if nothing keeps them apart, and one is told with the other one.
func TestEitherWay(t *testing.T) {
	r := rand.New(rand.NewSource(1212))
	for range 200 {
		m := large(r)
		x := ask(m)
		for a := range m.People {
			if who := x.who[a].result; has(who[0]|who[1], a) || who[0]&^who[1] != 0 {
				t.Errorf("%+v %v: %v", m, a, who)
			}
			for b := range m.People {
				if a == b {
					continue
				}
				suits, why, who := x.suits[a][b], x.why[a][b], x.who[a].result
				if suits != x.suits[b][a] || why != x.why[b][a] || (why.result == 0) != (suits.result != api.MateNever) {
					t.Errorf("%+v %v %v: %v %v", m, a, b, suits, why)
				}
				if has(who[0], b) != (suits.result == api.MateAlways) || has(who[1], b) != (suits.result != api.MateNever) {
					t.Errorf("%+v %v %v: %v %v", m, a, b, suits, who)
				}
			}
		}
	}
}

// P12.3, P12.8, P10 of the document: whoever has a partner is theirs, and rides together with them; no two who are alone can.
func TestEachHasOnePartner(t *testing.T) {
	r := rand.New(rand.NewSource(1213))
	found := 0
	for i := range 400 {
		m, sure := large(r), i%2 == 0
		match, alone := matched(t, m, sure)
		free := 0
		for a, b := range match {
			always, perhaps, _ := mate.Who(m, a)
			can := perhaps
			if sure {
				can = always
			}
			if b >= 0 && (match[b] != a || !has(can, b)) || b < -1 {
				t.Errorf("%+v %v: %v %v", m, sure, match, a)
			}
			for other, partner := range match {
				if b < 0 && partner < 0 && has(can, other) {
					t.Errorf("%+v %v: %v %v %v", m, sure, match, a, other)
				}
			}
			if b < 0 {
				free++
			}
		}
		if free != alone {
			t.Errorf("%+v %v: %v %v", m, sure, match, alone)
		}
		if alone > 1 {
			found++
		}
	}
	if found < 100 {
		t.Error("too few have several alone for a test", found)
	}
}

// P12.5, P10 of the document: without those who prove it there are as many more odd groups as they are themselves, so that no match leaves fewer alone.
func TestProves(t *testing.T) {
	r := rand.New(rand.NewSource(1214))
	found := 0
	for i := range 400 {
		m, sure := large(r), i%2 == 0
		if i%4 > 1 {
			m = drawn(6, chosen(lines(6), r.Intn(1<<15)&r.Intn(1<<15))...)
		}
		g := make(graph, len(m.People))
		for a := range g {
			always, perhaps, _ := mate.Who(m, a)
			g[a] = perhaps
			if sure {
				g[a] = always
			}
		}
		_, alone := matched(t, m, sure)
		people, left, e := mate.Proof(m, sure)
		if e != api.OK || left != alone || g.odd(people)-size(people) != alone {
			t.Errorf("%+v %v: %v %v %v, but %v", m, sure, people, left, e, alone)
		}
		for other := range 1 << len(g) {
			more := g.odd(other) - size(other)
			if more > alone || more == alone && (size(other) < size(people) || size(other) == size(people) && other < people) {
				t.Errorf("%+v %v: %v, but %v", m, sure, people, other)
			}
		}
		if people != 0 {
			found++
		}
	}
	if found < 20 {
		t.Error("too few need somebody for a test", found)
	}
}

// P12.4: without somebody one fewer is left alone just if they are alone in some best match; if there is but one best match, who is alone in some is in each.
func TestLeft(t *testing.T) {
	r := rand.New(rand.NewSource(1215))
	found := 0
	for i := range 300 {
		m, sure := large(r), i%2 == 0
		match, left := matched(t, m, sure)
		some, each, e := mate.Alone(m, sure)
		in := alone(match)
		if e != api.OK || in&^some != 0 || each&^in != 0 || some>>len(match) != 0 {
			t.Errorf("%+v %v: %v, told %v %v %v", m, sure, match, some, each, e)
		}
		for gone := range m.People {
			_, others := matched(t, without(m, gone), sure)
			if (others == left-1) != has(some, gone) {
				t.Errorf("%+v %v %v: %v %v, told %v", m, sure, gone, left, others, some)
			}
		}
		if n, _ := mate.Count(m, sure); n == 1 && some != each {
			t.Errorf("%+v %v: %v %v", m, sure, some, each)
		}
		if some != each {
			found++
		}
	}
	if found < 50 {
		t.Error("too few have a choice for a test", found)
	}
}

// P12.8: a best match that is sure leaves no fewer alone than one that is not.
func TestSureLeavesNoFewer(t *testing.T) {
	r := rand.New(rand.NewSource(1216))
	found := 0
	for range 300 {
		m := large(r)
		_, sure := matched(t, m, true)
		_, not := matched(t, m, false)
		if sure < not {
			t.Errorf("%+v: %v %v", m, sure, not)
		}
		if sure > not {
			found++
		}
	}
	if found < 50 {
		t.Error("too few have more alone for a test", found)
	}
}

// P12.8: with somebody more who looks for a partner, one more is left alone, or one fewer.
func TestSomebodyMore(t *testing.T) {
	r := rand.New(rand.NewSource(1217))
	more, fewer := 0, 0
	for i := range 400 {
		m, sure := randomMates(r, i%api.MatePeople, r.Intn(5)), r.Intn(2) == 0
		people := len(m.People)
		_, before := matched(t, m, sure)
		_, after := matched(t, with(m, randomPerson(r, m.Hours, people+1, people)), sure)
		switch after {
		case before + 1:
			more++
		case before - 1:
			fewer++
		default:
			t.Errorf("%+v %v: %v %v", m, sure, before, after)
		}
	}
	if more < 50 || fewer < 50 {
		t.Error("too few of a kind for a test", more, fewer)
	}
}

// moved returns a set of people if they are numbered otherwise.
func moved(people int, number []int) int {
	other := 0
	for old, now := range number {
		other |= people >> old & 1 << now
	}
	return other
}

// numbered returns mates who are numbered otherwise.
func numbered(m api.Mates, number []int) api.Mates {
	return changed(m, func(other *api.Mates) {
		for old, now := range number {
			other.People[now] = m.People[old]
			other.People[now].Not = moved(m.People[old].Not, number)
		}
	})
}

// sameBut tests that what is told of how people are put together is the same, but for their numbers.
func sameBut(t *testing.T, a, b put, number []int) {
	t.Helper()
	sets := func(of [2]int) [2]int { return [2]int{moved(of[0], number), moved(of[1], number)} }
	if a.count != b.count || a.match.number != b.match.number || sets(a.alone.result) != b.alone.result {
		t.Errorf("%v: %+v %+v", number, a, b)
	}
	// Which of several proofs is the least is told by their numbers.
	if a.proof.result[1] != b.proof.result[1] || size(a.proof.result[0]) != size(b.proof.result[0]) {
		t.Errorf("%v: %+v %+v", number, a, b)
	}
}

// P12.8, P11 of the document: if people are numbered otherwise only their numbers change.
func TestOtherNumbers(t *testing.T) {
	r := rand.New(rand.NewSource(1218))
	for range 300 {
		m := large(r)
		number := r.Perm(len(m.People))
		other := numbered(m, number)
		x, y := ask(m), ask(other)
		for a := range m.People {
			for b := range m.People {
				if x.suits[a][b] != y.suits[number[a]][number[b]] || x.why[a][b] != y.why[number[a]][number[b]] {
					t.Errorf("%+v %v %v %v", m, number, a, b)
				}
				if one, two := planOf(mate.Plan(m, a, b)), planOf(mate.Plan(other, number[a], number[b])); one != two {
					t.Errorf("%+v %v %v %v: %v %v", m, number, a, b, one, two)
				}
			}
			who := x.who[a].result
			if [2]int{moved(who[0], number), moved(who[1], number)} != y.who[number[a]].result {
				t.Errorf("%+v %v %v: %v %v", m, number, a, x.who, y.who)
			}
		}
		sameBut(t, x.surely, y.surely, number)
		sameBut(t, x.maybe, y.maybe, number)
	}
}

// P2 of the document: if it is known better how fast somebody is, whoever always suits still does, and whoever never does still does not.
func TestBetter(t *testing.T) {
	r := rand.New(rand.NewSource(1219))
	found := 0
	for range 600 {
		m := large(r)
		speeds := truly(r, m)
		other := changed(m, func(m *api.Mates) {
			i := r.Intn(len(speeds))
			s := &m.People[i].Speed
			*s = span(speeds[i]-r.Intn(speeds[i]-s.Lo+1), speeds[i]+r.Intn(s.Hi-speeds[i]+1))
		})
		x, y := ask(m), ask(other)
		for a := range m.People {
			before, after := x.who[a].result, y.who[a].result
			if before[0]&^after[0] != 0 || after[1]&^before[1] != 0 {
				t.Errorf("%+v %+v %v: %v %v", m, other, a, before, after)
			}
			if before != after {
				found++
			}
		}
		if x.surely.match.number < y.surely.match.number || x.maybe.match.number > y.maybe.match.number {
			t.Errorf("%+v %+v: %+v %+v", m, other, x, y)
		}
	}
	if found < 50 {
		t.Error("too few are known better for a test", found)
	}
}

// P12.6: a plan is told just of two who suit in some truth, is right for them, and has as many changes as are told.
func TestPlansAreRight(t *testing.T) {
	r := rand.New(rand.NewSource(1220))
	for range 100 {
		m := large(r)
		for a := range m.People {
			_, perhaps, _ := mate.Who(m, a)
			for b := range m.People {
				if a == b {
					continue
				}
				changes, plan, e := mate.Plan(m, a, b)
				if (e == api.OK) != has(perhaps, b) {
					t.Errorf("%+v %v %v: %v %v", m, a, b, e, perhaps)
				}
				if e != api.OK {
					continue
				}
				two := api.Rest{Hours: m.Hours, Riders: [2]api.RestRider{m.People[a].Rider, m.People[b].Rider}}
				if _, _, wrong := rest.Check(two, plan); wrong != api.ErrNone {
					t.Errorf("%+v %v %v: %v", m, a, b, plan)
				}
				for hour := 1; hour < len(plan); hour++ {
					if plan[hour] != plan[hour-1] {
						changes--
					}
				}
				if changes != 0 {
					t.Errorf("%+v %v %v: %v", m, a, b, plan)
				}
			}
		}
	}
}

// P11 of the document: the same mates are told the same, however often it is asked.
func TestAskedAgain(t *testing.T) {
	r := rand.New(rand.NewSource(1221))
	for range 60 {
		m := large(r)
		x := ask(m)
		for range 3 {
			if y := ask(m); x != y {
				t.Errorf("%+v: %+v %+v", m, x, y)
			}
		}
	}
}

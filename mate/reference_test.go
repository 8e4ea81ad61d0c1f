package mate_test

import (
	"fmt"
	"math/bits"
	"math/rand"
	"slices"
	"testing"

	"lapworks/api"
	"lapworks/mate"
	"lapworks/rest"
)

// What the chapter defines is done here as it stands there: all speeds, all plans, all lists of partners and all sets of people are gone through.

// rested returns whether one of all plans for the hours is right.
func rested(m api.Mates, a, b int) bool {
	plan := make([]int, m.Hours)
	r := api.Rest{Hours: m.Hours, Riders: [2]api.RestRider{m.People[min(a, b)].Rider, m.People[max(a, b)].Rider}}
	for number := range 1 << m.Hours {
		for hour := range plan {
			plan[hour] = number >> hour & 1
		}
		if _, _, e := rest.Check(r, plan); e == api.ErrNone {
			return true
		}
	}
	return false
}

// refuse returns whether one of two people does not ride with the other one.
func refuse(m api.Mates, a, b int) bool { return has(m.People[a].Not, b) || has(m.People[b].Not, a) }

// near returns in how many truths the speeds of two people differ by no more than they may, and how many there are, of these two alone.
func near(m api.Mates, a, b int) (some, all int) {
	for one := m.People[a].Speed.Lo; one <= m.People[a].Speed.Hi; one++ {
		for other := m.People[b].Speed.Lo; other <= m.People[b].Speed.Hi; other++ {
			all++
			if one-other <= m.Apart && other-one <= m.Apart {
				some++
			}
		}
	}
	return some, all
}

// suited returns whether two suit, and what keeps them apart.
func suited(m api.Mates, a, b int) (suits, why int) {
	some, all := near(m, a, b)
	if some == 0 {
		why |= api.MateFast
	}
	if refuse(m, a, b) {
		why |= api.MateNot
	}
	if !rested(m, a, b) {
		why |= api.MateRest
	}
	switch {
	case why != 0:
		return api.MateNever, why
	case some < all:
		return api.MatePerhaps, why
	default:
		return api.MateAlways, why
	}
}

// lists returns all lists of so many partners, the first one first, in which whoever is one's partner has this one as theirs.
func lists(people int) [][]int {
	all := [][]int{nil}
	for range people {
		var longer [][]int
		for _, l := range all {
			for partner := range people {
				longer = append(longer, append(slices.Clone(l), partner))
			}
			longer = append(longer, append(slices.Clone(l), -1))
		}
		all = longer
	}
	return slices.DeleteFunc(all, func(l []int) bool {
		for i, partner := range l {
			if partner == i || partner >= 0 && l[partner] != i {
				return true
			}
		}
		return false
	})
}

// listed returns all lists of so many partners, by their number.
func listed() [][][]int {
	var all [][][]int
	for people := range api.MatePeople + 1 {
		all = append(all, lists(people))
	}
	return all
}

// alone returns the set of those who have no partner.
func alone(match []int) int {
	in := 0
	for i, partner := range match {
		if partner < 0 {
			in |= set(i)
		}
	}
	return in
}

// size returns how many are in a set.
func size(set int) int { return bits.OnesCount(uint(set)) }

// graph is who can ride together with whom: for each person a set.
type graph []int

// best returns all best matches, of all lists of partners.
func (g graph) best(lists [][]int) [][]int {
	matches := slices.DeleteFunc(slices.Clone(lists), func(l []int) bool {
		for i, partner := range l {
			if partner >= 0 && !has(g[i], partner) {
				return true
			}
		}
		return false
	})
	fewest := len(g)
	for _, m := range matches {
		fewest = min(fewest, size(alone(m)))
	}
	return slices.DeleteFunc(matches, func(m []int) bool { return size(alone(m)) > fewest })
}

// odd returns how many groups of an odd number of people there are without some people.
func (g graph) odd(without int) int {
	groups := map[int]bool{}
	for i := range g {
		group := set(i)
		for range g {
			for j := range g {
				if has(group, j) {
					group |= g[j] &^ without
				}
			}
		}
		if !has(without, i) {
			groups[group] = true
		}
	}
	odd := 0
	for group := range groups {
		odd += size(group) % 2
	}
	return odd
}

// proof returns the least of the fewest people who prove that so many are left alone.
func (g graph) proof(alone int) int {
	for many := range len(g) + 1 {
		for people := range 1 << len(g) {
			if size(people) == many && g.odd(people)-many == alone {
				return people
			}
		}
	}
	panic("nobody proves it")
}

// put returns all that has to be told of how people are put together.
func (g graph) put(lists [][]int) put {
	best := g.best(lists)
	some, each := 0, 1<<len(g)-1
	for _, m := range best {
		some |= alone(m)
		each &= alone(m)
	}
	left := size(alone(best[0]))
	return put{written{fmt.Sprint(best[0]), left, api.OK}, so(len(best)), so([2]int{some, each}), so([2]int{g.proof(left), left})}
}

// expected returns all that has to be told of mates, but for plans.
func expected(m api.Mates, lists [][]int) told {
	var x told
	surely, maybe := make(graph, len(m.People)), make(graph, len(m.People))
	for a := range x.suits {
		x.who[a].e = api.ErrRange
		for b := range x.suits {
			if a >= len(m.People) || b >= len(m.People) || a == b {
				x.suits[a][b].e, x.why[a][b].e = api.ErrRange, api.ErrRange
				continue
			}
			suits, why := suited(m, a, b)
			x.suits[a][b], x.why[a][b] = so(suits), so(why)
			if suits == api.MateAlways {
				surely[a] |= set(b)
			}
			if suits != api.MateNever {
				maybe[a] |= set(b)
			}
		}
	}
	for a := range m.People {
		x.who[a] = so([2]int{surely[a], maybe[a]})
	}
	x.surely, x.maybe = surely.put(lists), maybe.put(lists)
	return x
}

// checked tests what is told of mates, but for plans, and returns it.
func checked(t *testing.T, m api.Mates, listed [][][]int) told {
	t.Helper()
	x, want := ask(m), expected(m, listed[len(m.People)])
	if x != want {
		t.Errorf("%+v\ntold     %+v\nexpected %+v", m, x, want)
	}
	return x
}

// P12.1 to P12.5: mates of all numbers, for a few hours.
func TestAgainstTruths(t *testing.T) {
	r := rand.New(rand.NewSource(1201))
	all := listed()
	suits, why := map[int]int{}, map[int]int{}
	for i := range 400 {
		m := randomMates(r, i%(api.MatePeople+1), r.Intn(5))
		x := checked(t, m, all)
		for a := range m.People {
			for b := range a {
				suits[x.suits[a][b].result]++
				why[x.why[a][b].result]++
			}
		}
	}
	for _, n := range list(api.MateNever, api.MatePerhaps, api.MateAlways) {
		if suits[n] < 100 {
			t.Error("too few of a kind for a test", suits)
		}
	}
	for n := range 8 {
		if why[n] < 20 {
			t.Error("too few of a kind for a test", why)
		}
	}
}

// P12.1 to P12.5, R7: as many mates as there can be, for as many hours, or nearly.
func TestLargeMates(t *testing.T) {
	r := rand.New(rand.NewSource(1202))
	all := listed()
	for i := range 12 {
		checked(t, randomMates(r, api.MatePeople-i%2, api.MateHours-i%3), all)
	}
}

// P12.1: all that two can know of their speeds, near to one another, and all by which these may differ.
func TestEachSpeed(t *testing.T) {
	var spans []api.Span
	for hi := range 6 {
		for lo := range hi + 1 {
			spans = append(spans, span(lo, hi))
		}
	}
	for _, one := range spans {
		for _, other := range spans {
			for apart := range 7 {
				m := of(0, apart, quick(one.Lo, one.Hi), quick(other.Lo, other.Hi))
				suits, why := suited(m, 0, 1)
				if got := resultOf(mate.Suits(m, 0, 1)); got != so(suits) {
					t.Error(m, got, suits)
				}
				if got := resultOf(mate.Why(m, 1, 0)); got != so(why) {
					t.Error(m, got, why)
				}
			}
		}
	}
}

// P12.3 to P12.5: all of up to five people who can ride together or not, and some of six.
func TestWhoeverCanRideTogether(t *testing.T) {
	r := rand.New(rand.NewSource(1203))
	all := listed()
	check := func(people, number int) {
		t.Helper()
		some := chosen(lines(people), number)
		m, g := drawn(people, some...), make(graph, people)
		for _, l := range some {
			g[l[0]] |= set(l[1])
			g[l[1]] |= set(l[0])
		}
		want := g.put(all[people])
		for _, sure := range list(true, false) {
			if x := putBy(m, sure); x != want {
				t.Errorf("%v %v: %+v, not %+v", people, some, x, want)
			}
		}
	}
	for people := range 6 {
		for number := range 1 << len(lines(people)) {
			check(people, number)
		}
	}
	for i := range 900 {
		// Few lines, and many, leave somebody more often than half of them.
		number := r.Intn(1 << 15)
		if i%3 > 0 {
			number &= r.Intn(1 << 15)
		}
		check(6, number)
	}
}

// expectedPlan returns the plan that has to be told of two people.
func expectedPlan(m api.Mates, a, b int) written {
	if suits, _ := suited(m, a, b); suits == api.MateNever {
		return written{"[]", 0, api.ErrRefuse}
	}
	return planOf(rest.Fewest(api.Rest{Hours: m.Hours, Riders: [2]api.RestRider{m.People[a].Rider, m.People[b].Rider}}))
}

// P12.6: the plans of each two of many, either of whom comes first.
func TestPlanAgainstRest(t *testing.T) {
	r := rand.New(rand.NewSource(1204))
	found := map[api.Errno]int{}
	other := 0
	for i := range 150 {
		m := randomMates(r, 2+i%(api.MatePeople-1), r.Intn(api.MateHours+1))
		for a := range m.People {
			for b := range m.People {
				if a == b {
					continue
				}
				x, want := planOf(mate.Plan(m, a, b)), expectedPlan(m, a, b)
				if x != want {
					t.Errorf("%+v %v %v: %+v, not %+v", m, a, b, x, want)
				}
				if x.e == api.OK && x != planOf(mate.Plan(m, b, a)) {
					other++
				}
				found[x.e]++
			}
		}
	}
	if found[api.OK] < 200 || found[api.ErrRefuse] < 200 || other < 100 {
		t.Error("too few of a kind for a test", found, other)
	}
}

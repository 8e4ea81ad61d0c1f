package sprint_test

import (
	"math/bits"
	"math/rand"
	"slices"
	"testing"

	"lapworks/api"
	"lapworks/sprint"
)

// What the chapter defines is done here as it stands there: all orders of all pairs are written down, and then it is looked in which of them all is as it was seen.

// lists returns all lists of so many pairs, each once, the first one first.
func lists(pairs int) [][]int {
	all := [][]int{nil}
	for range pairs {
		var longer [][]int
		for _, l := range all {
			for pair := range pairs {
				if !slices.Contains(l, pair) {
					longer = append(longer, append(slices.Clone(l), pair))
				}
			}
		}
		all = longer
	}
	return all
}

// wrong returns the set of what was seen in a sprint that is not so in an order.
func wrong(s api.Sprint, order []int) int {
	set := 0
	for i, a := range s.Ahead {
		if slices.Index(order, a[0]) > slices.Index(order, a[1]) {
			set |= 1 << i
		}
	}
	for i, p := range s.Places {
		if place := slices.Index(order, p.Pair); place < p.Place.Lo || place > p.Place.Hi {
			set |= 1 << (len(s.Ahead) + i)
		}
	}
	return set
}

// ordersOf returns the orders in which each sprint can have ended.
func ordersOf(s api.Sprints) [][][]int {
	var all [][][]int
	for _, one := range s.List {
		var orders [][]int
		for _, order := range lists(s.Pairs) {
			if wrong(one, order) == 0 {
				orders = append(orders, order)
			}
		}
		all = append(all, orders)
	}
	return all
}

// worth returns how many points a pair has by the order of a sprint.
func worth(s api.Sprints, i int, order []int, pair int) int {
	place := slices.Index(order, pair)
	switch {
	case place >= len(s.Points):
		return 0
	case s.List[i].Double:
		return 2 * s.Points[place]
	}
	return s.Points[place]
}

// truth is the points of each pair, in one way in which all sprints can have ended.
type truth [api.SprintPairs]int

// truths returns the points by all ways in which all sprints can have ended, each once.
func truths(s api.Sprints, orders [][][]int) []truth {
	all := map[truth]bool{{}: true}
	for i, of := range orders {
		next := map[truth]bool{}
		for t := range all {
			for _, order := range of {
				sum := t
				for pair := range s.Pairs {
					sum[pair] += worth(s, i, order, pair)
				}
				next[sum] = true
			}
		}
		all = next
	}
	var list []truth
	for t := range all {
		list = append(list, t)
	}
	return list
}

// numbers returns the span of the numbers of truths.
func numbers(all []truth, number func(truth) int) api.Span {
	s := span(number(all[0]), number(all[0]))
	for _, t := range all {
		s = span(min(s.Lo, number(t)), max(s.Hi, number(t)))
	}
	return s
}

// ahead returns how many of some orders have one pair before another one.
func ahead(orders [][]int, a, b int) int {
	many := 0
	for _, order := range orders {
		if slices.Index(order, a) < slices.Index(order, b) {
			many++
		}
	}
	return many
}

// look returns of whom to look who was ahead in a sprint that can have ended in these orders: the two, and how many orders are left.
func look(pairs int, orders [][]int) [3]int {
	best := [3]int{-1, -1, len(orders) + 1}
	for a := range pairs {
		for b := a + 1; b < pairs; b++ {
			if most := max(ahead(orders, a, b), ahead(orders, b, a)); most < best[2] {
				best = [3]int{a, b, most}
			}
		}
	}
	return best
}

// expected returns all that has to be told of sprints that can have ended in such orders.
func expected(s api.Sprints, orders [][][]int) told {
	var a told
	for _, of := range orders {
		a.counts = append(a.counts, len(of))
		if s.Pairs > 1 {
			a.asked = append(a.asked, look(s.Pairs, of)[2])
		}
		for pair := range s.Pairs {
			set := 0
			for _, order := range of {
				set |= 1 << slices.Index(order, pair)
			}
			a.places = append(a.places, set)
		}
	}
	all := truths(s, orders)
	a.most = 1<<s.Pairs - 1
	for pair := range s.Pairs {
		a.points = append(a.points, numbers(all, func(t truth) int { return t[pair] }))
		for other := range s.Pairs {
			if other == pair {
				continue
			}
			margin := numbers(all, func(t truth) int { return t[pair] - t[other] })
			a.margins = append(a.margins, margin)
			a.most, a.beaten = stand(a.most, a.beaten, pair, other, margin)
		}
	}
	return a
}

// stand returns who has the most points, and who is beaten, by one margin more.
func stand(most, beaten, pair, other int, margin api.Span) (int, int) {
	if margin.Lo < 0 {
		most &^= 1 << pair
	}
	if margin.Hi < 0 {
		beaten |= 1 << pair
	}
	return most, beaten
}

// clashing returns the set of the fewest things of which one is wrong in each order; of several the least number.
func clashing(pairs int, s api.Sprint) int {
	sets := map[int]bool{}
	for _, order := range lists(pairs) {
		sets[wrong(s, order)] = true
	}
	found := -1
things:
	for set := range 1 << (len(s.Ahead) + len(s.Places)) {
		if found >= 0 && bits.OnesCount(uint(set)) >= bits.OnesCount(uint(found)) {
			continue
		}
		for w := range sets {
			if set&w == 0 {
				continue things
			}
		}
		found = set
	}
	return found
}

// checkedOrders tests what is told of the orders of each sprint, and returns how many sprints have none.
func checkedOrders(t *testing.T, s api.Sprints, orders [][][]int) (none int) {
	t.Helper()
	for i, of := range orders {
		if n, e := sprint.Count(s, i); n != len(of) || e != api.OK {
			t.Error("Count", s, i, n, e, len(of))
		}
		if len(of) == 0 {
			none++
			refusedSprint(t, s, i, 0, api.ErrClash)
			if n, e := sprint.Clash(s, i); n != clashing(s.Pairs, s.List[i]) || e != api.OK {
				t.Error("Clash", s, i, n, e, clashing(s.Pairs, s.List[i]))
			}
			continue
		}
		if n, e := sprint.Clash(s, i); n != 0 || e != api.ErrNone {
			t.Error("Clash", s, i, n, e)
		}
		if o, e := sprint.First(s, i); !slices.Equal(o, of[0]) || e != api.OK {
			t.Error("First", s, i, o, e, of[0])
		}
		checkedAsk(t, s, i, of)
	}
	return none
}

// checkedAsk tests of whom it is told to look in a sprint that can have ended in these orders.
func checkedAsk(t *testing.T, s api.Sprints, i int, orders [][]int) {
	t.Helper()
	want, wantError := [3]int{}, api.ErrNone
	if s.Pairs > 1 {
		want, wantError = look(s.Pairs, orders), api.OK
	}
	if a, b, most, e := sprint.Ask(s, i); [3]int{a, b, most} != want || e != wantError {
		t.Error("Ask", s, i, a, b, most, e, want, wantError)
	}
}

// checked tests all functions of sprints against all orders, and returns whether they have a truth.
func checked(t *testing.T, s api.Sprints) bool {
	t.Helper()
	orders := ordersOf(s)
	if checkedOrders(t, s, orders) > 0 {
		for pair := range s.Pairs {
			refusedAll(t, s, pair, (pair+1)%s.Pairs, api.ErrClash)
		}
		return false
	}
	if a, want := ask(t, s), expected(s, orders); !a.same(want) {
		t.Error(s, a, want)
	}
	return true
}

// P4.1 to P4.5, P2 of the document: sprints with and without a truth, of each number of pairs and sprints.
func TestAgainstOrders(t *testing.T) {
	r := rand.New(rand.NewSource(61))
	so, not := 0, 0
	for i := range 600 {
		pairs := 1 + i%5
		// More sprints of many pairs can end in too many ways to write them all down.
		s := randomSprints(r, pairs, i/5%(min(api.SprintList, 7-pairs)+1))
		if i%3 == 0 {
			s = muddled(r, s, 3+r.Intn(4), 1)
		} else {
			s, _ = observed(r, s, 9, 2)
		}
		if checked(t, s) {
			so++
		} else {
			not++
		}
	}
	if so < 300 || not < 60 {
		t.Error("too few of a kind for a test", so, not)
	}
}

// P4.1 to P4.5, R7: as many pairs as there can be.
func TestManyPairs(t *testing.T) {
	r := rand.New(rand.NewSource(62))
	for i := range 30 {
		s, _ := observed(r, randomSprints(r, api.SprintPairs, 1), i%15, 2)
		checked(t, s)
	}
	for range 30 {
		s := randomSprints(r, api.SprintPairs, api.SprintList)
		for i := range s.List {
			order := r.Perm(s.Pairs)
			for place, pair := range order[1:] {
				s.List[i].Ahead = append(s.List[i].Ahead, [2]int{order[place], pair})
			}
			// Of all but two places it is known who came on them.
			gap := r.Intn(5)
			s.List[i].Ahead = slices.Delete(s.List[i].Ahead, gap, gap+1)
			for place, pair := range order {
				s.List[i].Places = append(s.List[i].Places, placed(pair, max(0, place-1), min(5, place+1)))
			}
		}
		checked(t, s)
	}
}

// P4.4: things that clash only by three and more together.
func TestLongClashes(t *testing.T) {
	r := rand.New(rand.NewSource(63))
	long := 0
	for range 400 {
		pairs := 4 + r.Intn(2)
		s := one(pairs, api.Sprint{})
		for range api.SprintAhead {
			a := two(r, pairs)
			if r.Intn(4) > 0 {
				a = [2]int{min(a[0], a[1]), max(a[0], a[1])}
			}
			s.List[0].Ahead = append(s.List[0].Ahead, a)
		}
		for range r.Intn(api.SprintPlaces + 1) {
			see(r, &s.List[0], r.Perm(pairs), 3)
		}
		n, e := sprint.Clash(s, 0)
		if e == api.ErrNone {
			continue
		}
		if n != clashing(pairs, s.List[0]) || e != api.OK {
			t.Error(s, n, e, clashing(pairs, s.List[0]))
		}
		if bits.OnesCount(uint(n)) > 2 {
			long++
		}
	}
	if long < 60 {
		t.Error("too few long clashes for a test", long)
	}
}

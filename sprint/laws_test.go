package sprint_test

import (
	"math/bits"
	"math/rand"
	"slices"
	"testing"

	"lapworks/api"
	"lapworks/sprint"
)

// large returns sprints in which nothing was seen, with as much of all as there can be, or nearly.
func large(r *rand.Rand) api.Sprints {
	return randomSprints(r, 2+r.Intn(api.SprintPairs-1), 1+r.Intn(api.SprintList))
}

// P4.7, P2 of the document: whatever truly was, if it was seen rightly, is within what is told.
func TestWhatIsTrue(t *testing.T) {
	r := rand.New(rand.NewSource(71))
	sure := 0
	for range 150 {
		s, orders := observed(r, large(r), 12, 2)
		have := make([]int, s.Pairs)
		for i, order := range orders {
			for place, pair := range order {
				have[pair] += worth(s, i, order, pair)
				if n := must(sprint.Place(s, i, pair))(t); n>>place&1 == 0 {
					t.Error("Place", s, i, order, pair, n)
				}
			}
			if n, e := sprint.Clash(s, i); n != 0 || e != api.ErrNone {
				t.Error("Clash", s, i, order, n, e)
			}
			if slices.Compare(must(sprint.First(s, i))(t), order) > 0 {
				t.Error("First", s, i, order)
			}
		}
		sure += bits.OnesCount(uint(trueStanding(t, s, have)))
	}
	if sure < 60 {
		t.Error("too few are surely first, or beaten, for a test", sure)
	}
}

// trueStanding tests what is told of points against those that all pairs truly have, and returns of whom something is told for sure.
func trueStanding(t *testing.T, s api.Sprints, have []int) int {
	t.Helper()
	most, beaten, e := sprint.Sure(s)
	if e != api.OK {
		t.Error("Sure", s, e)
	}
	best := slices.Max(have)
	for pair, n := range have {
		if p := must(sprint.Points(s, pair))(t); !within(span(n, n), p) {
			t.Error("Points", s, have, pair, p)
		}
		if most>>pair&1 == 1 && n < best || beaten>>pair&1 == 1 && n == best {
			t.Error("Sure", s, have, pair, most, beaten)
		}
		for other, m := range have {
			if other == pair {
				continue
			}
			if p := must(sprint.Margin(s, pair, other))(t); !within(span(n-m, n-m), p) {
				t.Error("Margin", s, have, pair, other, p)
			}
		}
	}
	return most | beaten
}

// P4.7: on each place some pair can have been, and each pair on some; each order is counted once, wherever a pair is in it, and whoever of two is ahead.
func TestCountedOnce(t *testing.T) {
	r := rand.New(rand.NewSource(72))
	for range 150 {
		s, _ := observed(r, randomSprints(r, 2+r.Intn(5), 1), 5, 2)
		count := must(sprint.Count(s, 0))(t)
		some := 0
		for pair := range s.Pairs {
			places := must(sprint.Place(s, 0, pair))(t)
			some |= places
			sum := 0
			for place := range s.Pairs {
				n := must(sprint.Count(with(s, nil, placed(pair, place, place)), 0))(t)
				if (n > 0) != (places>>place&1 == 1) {
					t.Error("Place", s, pair, places, place, n)
				}
				sum += n
			}
			if sum != count {
				t.Error("Count", s, pair, sum, count)
			}
		}
		if some != 1<<s.Pairs-1 {
			t.Error("Place", s, some)
		}
		askedOnce(t, s, count)
	}
}

// askedOnce tests that who is ahead of two leaves so many orders together, and of those of whom to ask no more than is told.
func askedOnce(t *testing.T, s api.Sprints, count int) {
	t.Helper()
	a, b, most, e := sprint.Ask(s, 0)
	if e != api.OK {
		t.Error("Ask", s, e)
	}
	for x := range s.Pairs {
		for y := range x {
			n, m := must(sprint.Count(with(s, list([2]int{x, y})), 0))(t), must(sprint.Count(with(s, list([2]int{y, x})), 0))(t)
			if n+m != count || max(n, m) < most || x == b && y == a && max(n, m) != most {
				t.Error("Ask", s, a, b, most, x, y, n, m, count)
			}
		}
	}
}

// P4.7: what is known of one sprint does not depend on the others, and points are those of all of them together.
func TestOneByOne(t *testing.T) {
	r := rand.New(rand.NewSource(73))
	for range 80 {
		s, _ := observed(r, large(r), 8, 2)
		sum := make([]api.Span, s.Pairs)
		for i, x := range s.List {
			alone := changed(s, func(s *api.Sprints) { s.List = list(x) })
			same(t, "Count", result(sprint.Count(s, i)), result(sprint.Count(alone, 0)))
			if o := must(sprint.First(s, i))(t); !slices.Equal(o, must(sprint.First(alone, 0))(t)) {
				t.Error("First", s, i, o)
			}
			a, b, most, e := sprint.Ask(s, i)
			if a0, b0, most0, e0 := sprint.Ask(alone, 0); a != a0 || b != b0 || most != most0 || e != e0 {
				t.Error("Ask", s, i, a, b, most, e)
			}
			for pair := range s.Pairs {
				same(t, "Place", result(sprint.Place(s, i, pair)), result(sprint.Place(alone, 0, pair)))
				p := must(sprint.Points(alone, pair))(t)
				sum[pair] = span(sum[pair].Lo+p.Lo, sum[pair].Hi+p.Hi)
			}
		}
		for pair, want := range sum {
			if p := must(sprint.Points(s, pair))(t); p != want {
				t.Error("Points", s, pair, p, want)
			}
		}
	}
}

// P4.7: with one thing more seen no more orders are left, and nothing is told less exactly.
func TestMore(t *testing.T) {
	r := rand.New(rand.NewSource(74))
	sharper := 0
	for range 120 {
		s, orders := observed(r, large(r), 5, 2)
		i := r.Intn(len(s.List))
		more := changed(s, func(s *api.Sprints) { see(r, &s.List[i], orders[i], 1) })
		a, b := ask(t, s), ask(t, more)
		if !b.inside(a) {
			t.Error(s, more, a, b)
		}
		if !a.same(b) {
			sharper++
		}
	}
	if sharper < 60 {
		t.Error("too few things tell anything for a test", sharper)
	}
}

// seenOf returns sprints with a set of what was seen in the sprint 0 alone.
func seenOf(s api.Sprints, set int) api.Sprints {
	return changed(s, func(s *api.Sprints) {
		was := s.List[0]
		s.List[0].Ahead, s.List[0].Places = nil, nil
		for i, a := range was.Ahead {
			if set>>i&1 == 1 {
				s.List[0].Ahead = append(s.List[0].Ahead, a)
			}
		}
		for i, p := range was.Places {
			if set>>(len(was.Ahead)+i)&1 == 1 {
				s.List[0].Places = append(s.List[0].Places, p)
			}
		}
	})
}

// P4.4, P4.7: things that clash do so alone, and each of them is needed; with one more there are no more of them.
func TestEachIsNeeded(t *testing.T) {
	r := rand.New(rand.NewSource(75))
	found := 0
	for range 200 {
		s := muddled(r, randomSprints(r, 3+r.Intn(4), 1), 8, 2)
		set, e := sprint.Clash(s, 0)
		if e != api.OK {
			continue
		}
		found++
		if n := must(sprint.Count(seenOf(s, set), 0))(t); n != 0 {
			t.Error(s, set, n)
		}
		for i := range bits.Len(uint(set)) {
			if set>>i&1 == 1 && must(sprint.Count(seenOf(s, set&^(1<<i)), 0))(t) == 0 {
				t.Error(s, set, i)
			}
		}
		more := changed(s, func(s *api.Sprints) { see(r, &s.List[0], r.Perm(s.Pairs), 1) })
		if n := must(sprint.Clash(more, 0))(t); bits.OnesCount(uint(n)) > bits.OnesCount(uint(set)) {
			t.Error(s, more, set, n)
		}
	}
	if found < 80 {
		t.Error("too few sprints clash for a test", found)
	}
}

// renumbered returns sprints whose pairs have other numbers.
func renumbered(s api.Sprints, number []int) api.Sprints {
	return changed(s, func(s *api.Sprints) {
		for _, x := range s.List {
			for i, a := range x.Ahead {
				x.Ahead[i] = [2]int{number[a[0]], number[a[1]]}
			}
			for i, p := range x.Places {
				x.Places[i].Pair = number[p.Pair]
			}
		}
	})
}

// P4.7, P11 of the document: if pairs are numbered otherwise only their numbers change.
func TestOtherNumbers(t *testing.T) {
	r := rand.New(rand.NewSource(76))
	clashes := 0
	for i := range 120 {
		s, _ := observed(r, large(r), 6, 2)
		if i%3 == 0 {
			s = muddled(r, large(r), 7, 1)
		}
		number := r.Perm(s.Pairs)
		g := renumbered(s, number)
		for i := range s.List {
			same(t, "Count", result(sprint.Count(s, i)), result(sprint.Count(g, i)))
			same(t, "Clash", result(sprint.Clash(s, i)), result(sprint.Clash(g, i)))
			if _, e := sprint.Clash(s, i); e == api.OK {
				clashes++
			}
			_, _, most, e := sprint.Ask(s, i)
			if _, _, n, d := sprint.Ask(g, i); n != most || d != e {
				t.Error("Ask", s, g, i, most, e, n, d)
			}
			for pair := range s.Pairs {
				same(t, "Place", result(sprint.Place(s, i, pair)), result(sprint.Place(g, i, number[pair])))
			}
		}
		for pair := range s.Pairs {
			other := (pair + 1) % s.Pairs
			same(t, "Points", result(sprint.Points(s, pair)), result(sprint.Points(g, number[pair])))
			same(t, "Margin", result(sprint.Margin(s, pair, other)), result(sprint.Margin(g, number[pair], number[other])))
		}
		sameStanding(t, s, g, number)
	}
	if clashes < 30 {
		t.Error("too few sprints clash for a test", clashes)
	}
}

// sameStanding tests that the same pairs, by their other numbers, are sure.
func sameStanding(t *testing.T, s, g api.Sprints, number []int) {
	t.Helper()
	most, beaten, e := sprint.Sure(s)
	n, m, d := sprint.Sure(g)
	if n != numberedSet(most, number) || m != numberedSet(beaten, number) || d != e {
		t.Error("Sure", s, g, most, beaten, e, n, m, d)
	}
}

// numberedSet returns a set of pairs by their other numbers.
func numberedSet(set int, number []int) int {
	other := 0
	for pair, n := range number {
		other |= set >> pair & 1 << n
	}
	return other
}

// P4.7, P11 of the document: if what was seen comes in another order only its numbers do.
func TestOrderOfThings(t *testing.T) {
	r := rand.New(rand.NewSource(77))
	for i := range 120 {
		s, _ := observed(r, large(r), 8, 2)
		if i%3 == 0 {
			s = muddled(r, large(r), 4, 1)
		}
		g := copied(s)
		for _, x := range g.List {
			r.Shuffle(len(x.Ahead), func(i, j int) { x.Ahead[i], x.Ahead[j] = x.Ahead[j], x.Ahead[i] })
			r.Shuffle(len(x.Places), func(i, j int) { x.Places[i], x.Places[j] = x.Places[j], x.Places[i] })
		}
		sure := true
		for i := range s.List {
			a, e := sprint.Clash(s, i)
			if b, d := sprint.Clash(g, i); bits.OnesCount(uint(a)) != bits.OnesCount(uint(b)) || d != e {
				t.Error("Clash", s, g, i, a, e, b, d)
			}
			sure = sure && e == api.ErrNone
		}
		if !sure {
			continue
		}
		if a, b := ask(t, s), ask(t, g); !a.same(b) {
			t.Error(s, g, a, b)
		}
		for i := range s.List {
			if !slices.Equal(must(sprint.First(s, i))(t), must(sprint.First(g, i))(t)) {
				t.Error("First", s, g, i)
			}
		}
	}
}

// outcome is a result with its error.
type outcome[T any] struct {
	result T
	e      api.Errno
}

// result returns both as one thing.
func result[T any](r T, e api.Errno) outcome[T] { return outcome[T]{r, e} }

// same tests that two results are the same.
func same[T comparable](t *testing.T, name string, a, b outcome[T]) {
	t.Helper()
	if a.result != b.result || a.e != b.e {
		t.Error(name, a, b)
	}
}

// P11 of the document: the same sprints are told the same, however often it is asked.
func TestAskedAgain(t *testing.T) {
	r := rand.New(rand.NewSource(78))
	for range 20 {
		s, _ := observed(r, large(r), 6, 2)
		a := ask(t, s)
		if b := ask(t, s); !a.same(b) {
			t.Error(s, a, b)
		}
		first, second, most, e := sprint.Ask(s, 0)
		for range 3 {
			if a, b, n, d := sprint.Ask(s, 0); a != first || b != second || n != most || d != e {
				t.Error("Ask", s, a, b, n, d)
			}
		}
	}
}

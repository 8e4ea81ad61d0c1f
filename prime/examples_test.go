package prime_test

import (
	"slices"
	"testing"

	"lapworks/api"
	"lapworks/prime"
)

// free returns so many sprints of which nothing was seen.
func free(sprints int) []api.Sprint { return make([]api.Sprint, sprints) }

// P9.1: the chapter's examples, primes of each kind alone and one behind the other, and none.
func TestDueAndBack(t *testing.T) {
	for i, x := range []struct {
		p    api.Primes
		due  []api.Span
		back api.Span
	}{
		{exampleP(), list(span(0, 15), span(0, 3), span(0, 18), span(0, 3)), span(1, 1)},
		// With no primes nothing is due, and nothing goes back; also with no sprints.
		{of(2, free(1)), list(span(0, 0), span(0, 0)), span(0, 0)}, {of(1, nil), list(span(0, 0)), span(0, 0)},
		{of(1, free(1), onPlace(0, 0, 7)), list(span(7, 7)), span(0, 0)}, {of(1, free(1), shared(0, 0, 7)), list(span(7, 7)), span(0, 0)}, {of(1, free(1), byPair(0, 0, 0, 7)), list(span(7, 7)), span(0, 0)},
		{of(2, free(1), onPlace(0, 1, 7)), list(span(0, 7), span(0, 7)), span(0, 0)}, {of(2, list(ended(1, 0)), onPlace(0, 1, 7)), list(span(7, 7), span(0, 0)), span(0, 0)},
		// A place is one of the first ones if it is at most Place.
		{of(3, list(ended(1, 0, 2)), byPair(0, 0, 0, 7)), list(span(0, 0), span(0, 0), span(0, 0)), span(7, 7)},
		{of(3, list(ended(1, 0, 2)), byPair(0, 0, 1, 7)), list(span(7, 7), span(0, 0), span(0, 0)), span(0, 0)},
		{of(3, free(1), byPair(0, 0, 1, 7)), list(span(0, 7), span(0, 0), span(0, 0)), span(0, 7)}, {of(3, free(1), byPair(0, 0, 2, 7)), list(span(7, 7), span(0, 0), span(0, 0)), span(0, 0)},
		// What cannot be shared goes back, all of it if there are less coins than pairs.
		{of(3, free(1), shared(0, 2, 8)), list(span(2, 2), span(2, 2), span(2, 2)), span(2, 2)}, {of(3, free(1), shared(0, 2, 2)), list(span(0, 0), span(0, 0), span(0, 0)), span(2, 2)},
		{of(3, free(1), shared(0, 1, 9)), list(span(0, 4), span(0, 4), span(0, 4)), span(1, 1)}, {of(3, list(ended(2, 0, 1)), shared(0, 1, 9)), list(span(4, 4), span(0, 0), span(4, 4)), span(1, 1)},
		// What is left comes to the next prime, also to that of a later sprint, and beyond one.
		{of(2, free(3), byPair(0, 0, 0, 7), onPlace(2, 0, 1)), list(span(0, 8), span(0, 8)), span(0, 0)},
		{of(2, list(ended(1, 0), ended(0, 1), ended(1, 0)), byPair(0, 0, 0, 7), byPair(1, 1, 0, 5), onPlace(2, 0, 1)), list(span(0, 0), span(13, 13)), span(0, 0)},
		{of(2, list(ended(1, 0), ended(0, 1)), byPair(0, 0, 0, 7), byPair(0, 0, 0, 6), shared(0, 1, 0), byPair(1, 0, 0, 2)), list(span(9, 9), span(6, 6)), span(0, 0)},
		{of(2, list(ended(0, 1)), shared(0, 1, 3), shared(0, 1, 0), byPair(0, 0, 0, 0)), list(span(2, 2), span(1, 1)), span(0, 0)},
		// If one gets it the other one does not: what is due is not the sum of what each prime can pay.
		{of(2, free(1), onPlace(0, 0, 5), onPlace(0, 1, 3)), list(span(3, 5), span(3, 5)), span(0, 0)},
		{of(2, free(1), byPair(0, 0, 0, 5), byPair(0, 1, 0, 5), onPlace(0, 0, 1)), list(span(0, 11), span(0, 11)), span(0, 0)},
	} {
		for pair, want := range x.due {
			if s, e := prime.Due(x.p, pair); s != want || e != api.OK {
				t.Error("Due", i, pair, s, e, want)
			}
		}
		if s, e := prime.Back(x.p); s != x.back || e != api.OK {
			t.Error("Back", i, s, e, x.back)
		}
	}
}

// P9.2: the chapter's examples; what was left is paid, too, and what cannot be shared is not.
func TestPays(t *testing.T) {
	for i, x := range []struct {
		p    api.Primes
		pays []api.Span
	}{
		{exampleP(), list(span(0, 10), span(5, 15), span(6, 6))},
		{of(1, free(1), onPlace(0, 0, 7)), list(span(7, 7))}, {of(3, free(1), onPlace(0, 2, 0)), list(span(0, 0))},
		{of(3, free(1), shared(0, 2, 8), onPlace(0, 0, 1), shared(0, 2, 2)), list(span(6, 6), span(3, 3), span(0, 0))},
		{of(2, free(2), byPair(0, 0, 0, 5), byPair(0, 1, 0, 3), byPair(1, 0, 0, 1)), list(span(0, 5), span(0, 8), span(0, 4))},
		{of(2, list(ended(0, 1), api.Sprint{}), byPair(0, 0, 0, 5), byPair(0, 1, 0, 3), byPair(1, 0, 0, 1)), list(span(5, 5), span(0, 0), span(0, 4))},
		{of(4, free(1), byPair(0, 3, 1, 4), shared(0, 2, 3)), list(span(0, 4), span(3, 6))},
	} {
		for number, want := range x.pays {
			if s, e := prime.Pays(x.p, number); s != want || e != api.OK {
				t.Error(i, number, s, e, want)
			}
		}
	}
}

// P9.3: the chapter's examples; who gets no coin does not get something, and who gets at least one in each truth surely does.
func TestWho(t *testing.T) {
	for i, x := range []struct {
		p   api.Primes
		who [][2]int
	}{
		{exampleP(), list([2]int{1, 0}, [2]int{5, 0}, [2]int{14, 0})},
		{of(1, free(1), onPlace(0, 0, 1)), list([2]int{1, 1})}, {of(1, free(1), onPlace(0, 0, 0)), list([2]int{0, 0})},
		{of(3, free(1), shared(0, 2, 3), shared(0, 2, 2), shared(0, 2, 1)), list([2]int{7, 7}, [2]int{0, 0}, [2]int{7, 7})},
		{of(3, list(seen(nil, placed(1, 0, 1))), shared(0, 1, 2), byPair(0, 1, 1, 1), byPair(0, 1, 0, 1)), list([2]int{7, 2}, [2]int{2, 2}, [2]int{2, 0})},
		{of(3, list(seen(list([2]int{2, 1}))), onPlace(0, 0, 4), onPlace(0, 2, 4)), list([2]int{5, 0}, [2]int{3, 0})},
		// A prime of no coins pays what was left, if anything was.
		{of(2, free(1), byPair(0, 0, 0, 1), byPair(0, 1, 0, 0), byPair(0, 1, 1, 0)), list([2]int{1, 0}, [2]int{2, 0}, [2]int{0, 0})},
		{of(2, list(ended(1, 0)), byPair(0, 0, 0, 1), byPair(0, 1, 0, 0)), list([2]int{0, 0}, [2]int{2, 2})},
	} {
		for number, want := range x.who {
			if w := bothOf(prime.Who(x.p, number)); w != so(want) {
				t.Error(i, number, w, want)
			}
		}
	}
}

// P9.4: the chapter's example; whether the sprints can end so, or at all, does not matter.
func TestExact(t *testing.T) {
	clashing := changed(exampleP(), func(p *api.Primes) { p.Sprints.List[1] = cycle() })
	for i, x := range []struct {
		p      api.Primes
		orders [][]int
		want   string
	}{
		{exampleP(), list(list(2, 0, 1, 3), list(3, 1, 2, 0)), "[0 3 15 3] 1"}, {exampleP(), list(list(0, 1, 2, 3), list(3, 1, 2, 0)), "[15 3 0 3] 1"},
		{exampleP(), list(list(3, 2, 1, 0), list(0, 1, 2, 3)), "[3 3 0 15] 1"}, {clashing, list(list(2, 0, 1, 3), list(3, 1, 2, 0)), "[0 3 15 3] 1"},
		{of(1, nil), nil, "[0] 0"}, {of(6, nil), nil, "[0 0 0 0 0 0] 0"}, {of(2, free(2)), list(list(0, 1), list(1, 0)), "[0 0] 0"},
		{of(3, free(2), byPair(0, 0, 1, 9), shared(1, 1, 0)), list(list(2, 1, 0), list(0, 2, 1)), "[4 0 4] 1"},
		{of(3, free(2), byPair(0, 0, 1, 9), shared(1, 1, 0)), list(list(2, 0, 1), list(0, 2, 1)), "[9 0 0] 0"},
		// Only the order of its own sprint decides a prime.
		{of(2, free(3), onPlace(1, 0, 4)), list(list(0, 1), list(1, 0), list(0, 1)), "[0 4] 0"},
	} {
		if b := billOf(prime.Exact(x.p, x.orders)); b != so(x.want) {
			t.Error(i, b, x.want)
		}
	}
	due, back, e := prime.Exact(exampleP(), list(list(2, 0, 1, 3), list(3, 1, 2, 0)))
	if !slices.Equal(due, list(0, 3, 15, 3)) || back != 1 || e != api.OK {
		t.Error(due, back, e)
	}
}

// P9.5: the chapter's examples; of equal sprints the first one, and of each the order that tells least.
func TestLook(t *testing.T) {
	for i, x := range []struct {
		p    api.Primes
		look [][2]int
	}{
		{exampleP(), list([2]int{0, 0}, [2]int{1, 0}, [2]int{0, 3}, [2]int{1, 0})},
		{of(1, free(1)), list([2]int{0, 0})}, {of(2, free(3)), list([2]int{0, 0}, [2]int{0, 0})}, {of(2, free(3), onPlace(1, 0, 8)), list([2]int{1, 0}, [2]int{1, 0})},
		{of(2, free(2), onPlace(0, 0, 8), onPlace(1, 0, 8)), list([2]int{0, 8}, [2]int{0, 8})}, {of(2, free(2), onPlace(0, 0, 7), onPlace(1, 0, 8)), list([2]int{1, 7}, [2]int{1, 7})},
		{of(2, free(2), onPlace(0, 0, 8), onPlace(1, 0, 7)), list([2]int{0, 7}, [2]int{0, 7})},
		// How the first sprint ends tells whether there is anything left for the second one.
		{of(2, free(2), byPair(0, 0, 0, 9), byPair(1, 1, 0, 0)), list([2]int{0, 0}, [2]int{0, 9})},
		// Of a sprint the order after which most is left to be known counts, though after another one all is known.
		{of(3, list(api.Sprint{}, seen(list([2]int{0, 2}))), byPair(0, 0, 0, 9), byPair(1, 1, 0, 2)), list([2]int{0, 0}, [2]int{1, 9}, [2]int{0, 0})},
		// The last sprint of all, with one that decides nothing.
		{of(2, free(4), onPlace(0, 0, 1), onPlace(1, 0, 1), onPlace(3, 0, 2)), list([2]int{3, 2}, [2]int{3, 2})},
	} {
		for pair, want := range x.look {
			if l := bothOf(prime.Look(x.p, pair)); l != so(want) {
				t.Error(i, pair, l, want)
			}
		}
	}
}

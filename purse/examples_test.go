package purse_test

import (
	"testing"

	"lapworks/api"
	"lapworks/purse"
)

// open returns the purse of pairs of whom nobody is ahead of anybody for sure, with some prizes, and coins for hours.
func open(prizes []int, led int, hours ...int) api.Purse {
	return of(drawn(len(hours)), prizes, led, hours...)
}

// P13.1: the chapter's examples; what is left goes to those for whom the division left most, of several to those with lesser numbers, and nothing to anybody if nobody led.
func TestSplit(t *testing.T) {
	for i, x := range []struct {
		coins       int
		hours, want []int
	}{
		{10, list(5, 0, 2), list(7, 0, 3)}, {5, list(1, 1, 1), list(2, 2, 1)}, {7, list(0, 0), list(0, 0)},
		{0, nil, nil}, {9, nil, nil}, {0, list(3), list(0)}, {9, list(3), list(9)}, {9, list(0), list(0)}, {0, list(0, 0, 0), list(0, 0, 0)},
		// Nothing is left, and one, two or three coins are.
		{6, list(1, 1, 1), list(2, 2, 2)}, {7, list(1, 1, 1), list(3, 2, 2)}, {3, list(1, 1, 1, 1), list(1, 1, 1, 0)}, {1, list(1, 1), list(1, 0)}, {1, list(0, 1, 1), list(0, 1, 0)}, {2, list(0, 1, 1, 1), list(0, 1, 1, 0)},
		// What is left goes by what the division left, not by hours or by numbers.
		{10, list(1, 6), list(1, 9)}, {10, list(6, 1), list(9, 1)}, {10, list(2, 5), list(3, 7)}, {3, list(3, 5, 8), list(1, 1, 1)}, {4, list(1, 3, 6), list(1, 1, 2)}, {1, list(1, 2, 3), list(0, 0, 1)}, {10, list(8, 3, 8), list(4, 2, 4)}, {1, list(4, 5, 4), list(0, 1, 0)}, {11, list(3, 4, 3), list(3, 5, 3)},
		// Of several for whom it left as much, but not most.
		{2, list(1, 1, 3), list(1, 0, 1)}, {2, list(3, 1, 1), list(1, 1, 0)},
		{5000, list(144, 144, 144, 144, 144, 144, 144), list(715, 715, 714, 714, 714, 714, 714)}, {5000, list(144, 143, 142, 141, 140, 139, 138, 137), list(641, 636, 632, 627, 623, 618, 614, 609)}, {1, list(0, 0, 0, 0, 0, 0, 0, 1), list(0, 0, 0, 0, 0, 0, 0, 1)},
	} {
		if s := coinsOf(purse.Split(x.coins, x.hours)); s != coinsSo(x.want...) {
			t.Error(i, x.coins, x.hours, s, x.want)
		}
	}
}

// P13.2, P13.3: the chapter's examples; places without a prize, prizes without a place, as many coins for several places, and hours of nobody.
func TestPlacesAndDue(t *testing.T) {
	all, none := span(0, 2), span(0, 0)
	for i, x := range []struct {
		p           api.Purse
		places, due []api.Span
	}{
		{exampleP(), list(span(0, 1), span(1, 2), span(0, 2)), list(span(67, 107), span(30, 60), span(33, 103))},
		{open(list(9, 5, 2), 0, 0, 0, 0), list(all, all, all), list(span(2, 9), span(2, 9), span(2, 9))},
		{open(list(9, 5, 2), 3, 0, 1, 2), list(all, all, all), list(span(2, 9), span(3, 10), span(4, 11))},
		{open(list(9, 5, 2), 3, 0, 0, 0), list(all, all, all), list(span(2, 9), span(2, 9), span(2, 9))},
		{open(list(9), 2, 1, 1, 0), list(all, all, all), list(span(1, 10), span(1, 10), span(0, 9))},
		{open(nil, 2, 1, 1, 0), list(all, all, all), list(span(1, 1), span(1, 1), none)},
		{open(list(9, 5, 2, 1), 0, 0, 0, 0), list(all, all, all), list(span(2, 9), span(2, 9), span(2, 9))},
		{open(list(7, 7, 7), 0, 0, 0, 0), list(all, all, all), list(span(7, 7), span(7, 7), span(7, 7))},
		{open(list(7, 7), 5, 0, 2, 3), list(all, all, all), list(span(0, 7), span(2, 9), span(3, 10))},
		{of(drawn(3, [2]int{2, 0}, [2]int{0, 1}), list(9, 5, 2), 4, 1, 3, 0), list(span(1, 1), span(2, 2), span(0, 0)), list(span(6, 6), span(5, 5), span(9, 9))},
		{of(drawn(3, [2]int{2, 0}, [2]int{2, 1}), list(9, 5, 2), 4, 1, 3, 0), list(span(1, 2), span(1, 2), span(0, 0)), list(span(3, 6), span(5, 8), span(9, 9))},
		{of(drawn(4, [2]int{0, 1}, [2]int{2, 3}), list(9, 5, 2), 0, 0, 0, 0, 0), list(span(0, 2), span(1, 3), span(0, 2), span(1, 3)), list(span(2, 9), span(0, 5), span(2, 9), span(0, 5))},
		{open(list(9, 5), 4, 3), list(none), list(span(13, 13))}, {open(nil, 0, 0), list(none), list(none)}, {open(nil, 4, 0), list(none), list(none)},
	} {
		for pair := range x.places {
			if s := resultOf(purse.Places(x.p, pair)); s != so(x.places[pair]) {
				t.Error("Places", i, pair, s)
			}
			if s := resultOf(purse.Due(x.p, pair)); s != so(x.due[pair]) {
				t.Error("Due", i, pair, s)
			}
		}
	}
}

// P13.3: the chapter's examples; nobody, everybody, one pair alone, and pairs that cannot both come on the last places.
func TestGroup(t *testing.T) {
	apart := of(drawn(4, [2]int{0, 1}, [2]int{2, 3}), list(9, 5, 2, 1), 10, 1, 2, 3, 4)
	for i, x := range []struct {
		p     api.Purse
		pairs int
		want  api.Span
	}{
		{exampleP(), 3, span(97, 167)}, {exampleP(), 0, span(0, 0)}, {exampleP(), 7, span(200, 200)}, {exampleP(), 1, span(67, 107)}, {exampleP(), 4, span(33, 103)}, {exampleP(), 5, span(140, 170)}, {exampleP(), 6, span(93, 133)},
		{apart, 0, span(0, 0)}, {apart, 15, span(27, 27)}, {apart, 3, span(6, 17)}, {apart, 12, span(10, 21)}, {apart, 5, span(15, 18)}, {apart, 10, span(9, 12)}, {apart, 9, span(11, 16)}, {apart, 6, span(11, 16)}, {apart, 7, span(18, 22)}, {apart, 8, span(5, 9)},
	} {
		if s := resultOf(purse.Group(x.p, x.pairs)); s != so(x.want) {
			t.Error(i, x.pairs, s)
		}
	}
}

// P13.4: the chapter's examples; nothing is held back just if it is sure what is due to all.
func TestAdvance(t *testing.T) {
	for i, x := range []struct {
		p     api.Purse
		coins []int
		held  int
	}{
		{exampleP(), list(67, 30, 33), 70}, {open(list(9, 5, 2), 0, 0, 0, 0), list(2, 2, 2), 10}, {open(list(9, 5, 2), 3, 0, 0, 0), list(2, 2, 2), 10}, {open(list(9, 5, 2), 3, 0, 1, 2), list(2, 3, 4), 10}, {open(list(9), 3, 0, 1, 2), list(0, 1, 2), 9},
		{open(list(7, 7, 7, 7), 3, 0, 1, 2), list(7, 8, 9), 0}, {open(nil, 3, 0, 1, 2), list(0, 1, 2), 0}, {open(nil, 3, 0, 0, 0), list(0, 0, 0), 0}, {open(list(9, 5), 4, 3), list(13), 0}, {open(list(9, 5), 4, 0), list(9), 0},
		{of(drawn(3, [2]int{2, 0}, [2]int{0, 1}), list(9, 5, 2), 4, 1, 3, 0), list(6, 5, 9), 0}, {of(drawn(3, [2]int{2, 0}, [2]int{2, 1}), list(9, 5, 2), 4, 1, 3, 0), list(3, 5, 9), 3},
	} {
		if s := advanceOf(purse.Advance(x.p)); s != advanceOf(x.coins, x.held, api.OK) {
			t.Error(i, s)
		}
	}
}

// P13.5: the chapter's examples; orders that are final, and those in which somebody comes before one who is surely ahead of them, also if another one is between both.
func TestExact(t *testing.T) {
	chain := of(drawn(4, [2]int{3, 0}, [2]int{0, 2}), list(9, 5, 2), 4, 1, 3, 0, 0)
	for i, x := range []struct {
		p     api.Purse
		order []int
		coins []int
	}{
		{exampleP(), list(2, 0, 1), list(67, 30, 103)}, {exampleP(), list(0, 1, 2), list(107, 60, 33)}, {exampleP(), list(0, 2, 1), list(107, 30, 63)}, {exampleP(), list(1, 0, 2), nil}, {exampleP(), list(1, 2, 0), nil}, {exampleP(), list(2, 1, 0), nil},
		{chain, list(3, 0, 2, 1), list(6, 3, 2, 9)}, {chain, list(1, 3, 0, 2), list(3, 12, 0, 5)}, {chain, list(3, 1, 0, 2), list(3, 8, 0, 9)}, {chain, list(2, 1, 0, 3), nil}, {chain, list(0, 3, 2, 1), nil}, {chain, list(3, 2, 0, 1), nil}, {chain, list(3, 2, 1, 0), nil},
		{open(list(9, 5), 4, 3), list(0), list(13)}, {open(nil, 7, 0, 0), list(1, 0), list(0, 0)},
	} {
		want := coinsSo(x.coins...)
		if x.coins == nil {
			want = coinsOf(nil, api.ErrRefuse)
		}
		if s := coinsOf(purse.Exact(x.p, x.order)); s != want {
			t.Error(i, x.order, s)
		}
	}
}

// P13.6: the chapter's examples; who leaves least in doubt, of several the first one, and nobody if all is known, though places are not.
func TestAsk(t *testing.T) {
	refuse := outcome[[2]int]{e: api.ErrRefuse}
	apart := of(drawn(4, [2]int{0, 1}, [2]int{2, 3}), list(9, 5, 2, 1), 10, 1, 2, 3, 4)
	for i, x := range []struct {
		p    api.Purse
		pair int
		want outcome[[2]int]
	}{
		{exampleP(), 0, so([2]int{2, 0})}, {exampleP(), 1, so([2]int{2, 0})}, {exampleP(), 2, so([2]int{0, 30})},
		{open(list(9, 5), 0, 0, 0), 0, so([2]int{1, 0})}, {open(list(9, 5), 0, 0, 0), 1, so([2]int{0, 0})},
		// Of as much the first one; the own number is none of another one.
		{open(list(9, 5, 2), 0, 0, 0, 0), 0, so([2]int{1, 4})}, {open(list(9, 5, 2), 0, 0, 0, 0), 1, so([2]int{0, 4})}, {open(list(9, 5, 2), 0, 0, 0, 0), 2, so([2]int{0, 4})},
		// The greater number counts, whichever of both is ahead.
		{open(list(9, 5, 4), 0, 0, 0, 0), 0, so([2]int{1, 4})}, {open(list(9, 8, 2), 0, 0, 0, 0), 0, so([2]int{1, 6})},
		// Whoever is ahead of another one as well is ahead of those behind this one: that leaves less in doubt.
		{apart, 0, so([2]int{2, 3})}, {apart, 1, so([2]int{2, 1})}, {apart, 2, so([2]int{0, 3})}, {apart, 3, so([2]int{0, 1})},
		{of(drawn(4, [2]int{1, 2}, [2]int{2, 3}), list(9, 5, 2, 1), 0, 0, 0, 0, 0), 0, so([2]int{1, 4})}, {of(drawn(4, [2]int{1, 2}, [2]int{2, 3}), list(9, 8, 2, 1), 0, 0, 0, 0, 0), 0, so([2]int{2, 1})}, {of(drawn(4, [2]int{1, 2}, [2]int{2, 3}), list(9), 0, 0, 0, 0, 0), 0, so([2]int{1, 0})}, {of(drawn(4, [2]int{1, 2}, [2]int{2, 3}), list(9, 9, 9), 0, 0, 0, 0, 0), 0, so([2]int{3, 0})}, {of(drawn(4, [2]int{1, 2}, [2]int{2, 3}), list(9, 5, 2, 1), 0, 0, 0, 0, 0), 2, so([2]int{0, 0})},
		// All is known: one pair alone, an order that is sure, no prizes, the same prize for all places that can be.
		{open(list(9, 5), 4, 3), 0, refuse}, {of(drawn(2, [2]int{1, 0}), list(9, 5), 4, 3, 1), 0, refuse}, {of(drawn(2, [2]int{1, 0}), list(9, 5), 4, 3, 1), 1, refuse}, {open(nil, 4, 3, 1), 1, refuse}, {open(list(5, 5), 4, 3, 1), 0, refuse}, {of(drawn(3, [2]int{0, 1}), list(7, 7, 3), 0, 0, 0, 0), 0, refuse}, {of(drawn(3, [2]int{0, 1}), list(7, 7, 3), 0, 0, 0, 0), 1, so([2]int{2, 0})},
	} {
		if s := bothOf(purse.Ask(x.p, x.pair)); s != x.want {
			t.Error(i, x.pair, s)
		}
	}
}

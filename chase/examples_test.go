package chase_test

import (
	"slices"
	"testing"

	"lapworks/api"
	"lapworks/chase"
)

// P7.1: the chapter's examples; several watches; no time is less than 0, and one can be more than a watch tells.
func TestTime(t *testing.T) {
	for i, x := range []struct {
		c    api.Chase
		want []api.Span
	}{
		{exampleC(), list(span(50, 51), span(51, 53), span(53, 54), span(50, 52))},
		{exampleD(), list(span(51, 53), span(52, 52))},
		{of(0, 1, list(0), list(200), list(7, 7, 7)), list(span(0, 0), span(200, 200), span(7, 7))},
		{of(3, 1, list(0), list(2), list(3), list(200), list(0, 3)), list(span(0, 3), span(0, 5), span(0, 6), span(197, 203), span(0, 3))},
		{of(3, 1, list(200, 200, 200), list(10, 16), list(16, 10), list(10, 13, 16), list(10, 11, 12), list(12, 12)), list(span(197, 203), span(13, 13), span(13, 13), span(13, 13), span(9, 13), span(9, 15))},
		{of(2, 1, list(10, 14), list(10, 13), list(0, 1)), list(span(12, 12), span(11, 12), span(0, 2))},
	} {
		for pair, want := range x.want {
			if s, e := chase.Time(x.c, pair); s != want || e != api.OK {
				t.Error(i, pair, s, e)
			}
		}
	}
}

// P7.2: the chapter's examples; the fewest watches, and of several sets the least number, whatever others clash.
func TestWrong(t *testing.T) {
	c := of(3, 1, list(10, 20, 30), list(10, 16, 22), list(10, 10, 20), list(20, 10, 10), list(10, 20, 10), list(10, 16, 10))
	for pair, want := range list(0b011, 0b001, 0b100, 0b001, 0b010, 0) {
		if n, e := chase.Wrong(c, pair); n != want || e != api.OK {
			t.Error(pair, n, e)
		}
	}
	for i, x := range []struct {
		c          api.Chase
		pair, want int
	}{
		{exampleW(), 0, 1}, {exampleC(), 0, 0}, {exampleC(), 2, 0}, {exampleD(), 1, 0},
		{of(0, 1, list(5, 5, 5), list(5, 6), list(5, 6, 6), list(6, 6, 5), list(5, 6, 7)), 0, 0}, {of(0, 1, list(5, 5, 5), list(5, 6)), 1, 1}, {of(0, 1, list(5, 6, 6)), 0, 1}, {of(0, 1, list(6, 6, 5)), 0, 4}, {of(0, 1, list(5, 6, 7)), 0, 3},
		// Watches that are wrong by as much as they can be, and by more.
		{of(3, 1, list(0, 6)), 0, 0}, {of(3, 1, list(0, 7)), 0, 1}, {of(2, 1, list(10, 15)), 0, 1}, {of(2, 1, list(10, 14)), 0, 0}, {of(3, 1, list(200, 194, 197)), 0, 0}, {of(3, 1, list(200, 0, 193)), 0, 3}, {of(3, 1, list(0, 200, 5)), 0, 2},
		// One watch alone can be right.
		{of(0, 1, list(0)), 0, 0}, {of(0, 1, list(200), list(1, 2)), 0, 0},
	} {
		if n, e := chase.Wrong(x.c, x.pair); n != x.want || e != api.OK {
			t.Error(i, n, e)
		}
	}
}

// P7.3: the chapter's examples; of pairs with the same time the lesser number comes first.
func TestPlace(t *testing.T) {
	for i, x := range []struct {
		c    api.Chase
		want []api.Span
	}{
		{exampleC(), list(span(0, 1), span(1, 2), span(3, 3), span(0, 2))}, {exampleD(), list(span(0, 1), span(0, 1))}, {of(3, 1, list(7)), list(span(0, 0))},
		{even(0, 1, 3), list(span(0, 0), span(1, 1), span(2, 2))}, {even(1, 1, 3), list(span(0, 2), span(0, 2), span(0, 2))}, {even(3, 6, 6), slices.Repeat(list(span(0, 5)), 6)},
		{of(0, 1, list(9), list(8), list(9)), list(span(1, 1), span(0, 0), span(2, 2))},
		// The pair 1 can be as fast as the pair 0, and is behind it then; the other way round it is ahead.
		{of(1, 1, list(10), list(12)), list(span(0, 0), span(1, 1))}, {of(1, 1, list(12), list(10)), list(span(0, 1), span(0, 1))}, {of(1, 1, list(13), list(10)), list(span(1, 1), span(0, 0))},
	} {
		for pair, want := range x.want {
			if s, e := chase.Place(x.c, pair); s != want || e != api.OK {
				t.Error(i, pair, s, e)
			}
		}
	}
}

// P7.4: the chapter's examples; finals of one pair, and of all.
func TestFinalAndCut(t *testing.T) {
	for i, x := range []struct {
		c    api.Chase
		want []int
		cut  api.Span
	}{
		{exampleC(), list(2, 1, 0, 1), span(50, 52)}, {exampleD(), list(1, 1), span(51, 52)},
		{changed(exampleC(), func(c *api.Chase) { c.Final = 1 }), list(1, 0, 0, 1), span(50, 51)}, {changed(exampleC(), func(c *api.Chase) { c.Final = 3 }), list(2, 2, 0, 2), span(51, 53)}, {changed(exampleC(), func(c *api.Chase) { c.Final = 4 }), list(2, 2, 2, 2), span(53, 54)},
		{of(3, 1, list(0)), list(2), span(0, 3)}, {of(3, 1, list(200, 199)), list(2), span(197, 202)}, {even(0, 2, 3), list(2, 2, 0), span(50, 50)}, {even(1, 2, 3), list(1, 1, 1), span(49, 51)}, {even(3, 6, 6), list(2, 2, 2, 2, 2, 2), span(47, 53)}, {even(3, 5, 6), list(1, 1, 1, 1, 1, 1), span(47, 53)},
		// As fast as the last one that comes into the final, but of a greater number, or of a lesser one.
		{of(0, 1, list(9), list(9)), list(2, 0), span(9, 9)}, {of(1, 1, list(10), list(12)), list(2, 0), span(9, 11)}, {of(1, 1, list(12), list(10)), list(1, 1), span(9, 11)},
		// The last one that comes can be another one when all are fast than when all are slow.
		{of(3, 1, list(50), list(51, 55)), list(1, 1), span(47, 53)}, {of(2, 2, list(40), list(50, 54), list(50)), list(2, 1, 1), span(48, 52)}, {of(2, 2, list(40), list(50), list(50, 54)), list(2, 2, 0), span(48, 52)},
	} {
		for pair, want := range x.want {
			if n, e := chase.Final(x.c, pair); n != want || e != api.OK {
				t.Error("Final", i, pair, n, e)
			}
		}
		if s, e := chase.Cut(x.c); s != x.cut || e != api.OK {
			t.Error("Cut", i, s, e)
		}
	}
}

// P7.5: the chapter's examples; all orders, one alone, and those that there is time for.
func TestOrdersAndFirst(t *testing.T) {
	for i, x := range []struct {
		c     api.Chase
		many  int
		first []int
	}{
		{exampleC(), 3, list(0, 1, 3, 2)}, {exampleD(), 2, list(0, 1)}, {of(3, 1, list(7)), 1, list(0)}, {of(0, 1, list(9), list(8), list(9)), 1, list(1, 0, 2)},
		// A pair that comes just behind one of a greater number has a greater time than this: in so many times there can be only one such pair fewer.
		{even(0, 1, 6), 1, list(0, 1, 2, 3, 4, 5)}, {even(1, 1, 6), 1 + 57 + 302, list(0, 1, 2, 3, 4, 5)}, {even(2, 1, 6), 719, list(0, 1, 2, 3, 4, 5)}, {even(3, 6, 6), 720, list(0, 1, 2, 3, 4, 5)},
		{even(1, 1, 3), 6, list(0, 1, 2)}, {even(1, 1, 4), 23, list(0, 1, 2, 3)}, {of(3, 1, list(0), list(0), list(0), list(0), list(0)), 119, list(0, 1, 2, 3, 4)}, {of(1, 1, list(0), list(0), list(0)), 5, list(0, 1, 2)},
		// Of each two of them the greater number can come first, but not of all three at once.
		{of(1, 1, list(50, 51), list(50, 51), list(50, 51)), 5, list(0, 1, 2)},
		// The first order is not that of the pairs, nor the one by what watches told.
		{of(1, 1, list(55), list(50), list(52)), 1, list(1, 2, 0)}, {of(1, 2, list(52), list(50), list(51)), 5, list(0, 1, 2)}, {of(1, 2, list(53), list(50), list(52)), 2, list(1, 0, 2)}, {of(1, 1, list(60), list(50), list(59), list(48)), 4, list(1, 3, 0, 2)},
	} {
		if n, e := chase.Orders(x.c); n != x.many || e != api.OK {
			t.Error("Orders", i, n, e)
		}
		if o, e := chase.First(x.c); !slices.Equal(o, x.first) || e != api.OK {
			t.Error("First", i, o, e)
		}
	}
}

// P7.6: the chapter's examples; of an odd number of pairs the one in the middle meets nobody; whether two meet can be settled where their places are not.
func TestMeet(t *testing.T) {
	settled := of(0, 1, list(30), list(10), list(20), list(50), list(40))
	for i, x := range []struct {
		c           api.Chase
		pair, other int
		want        int
	}{
		{exampleC(), 0, 2, 1}, {exampleC(), 1, 3, 1}, {exampleC(), 1, 2, 0}, {exampleC(), 2, 3, 1}, {exampleC(), 0, 1, 1}, {exampleC(), 0, 3, 0},
		{exampleD(), 0, 1, 2}, {even(3, 1, 2), 1, 0, 2}, {even(3, 1, 3), 0, 1, 1}, {even(0, 1, 3), 0, 2, 2}, {even(0, 1, 3), 0, 1, 0}, {even(0, 1, 3), 1, 2, 0},
		{settled, 1, 3, 2}, {settled, 2, 4, 2}, {settled, 0, 1, 0}, {settled, 0, 2, 0}, {settled, 0, 3, 0}, {settled, 0, 4, 0}, {settled, 1, 2, 0},
		{even(0, 1, 6), 0, 5, 2}, {even(0, 1, 6), 1, 4, 2}, {even(0, 1, 6), 2, 3, 2}, {even(0, 1, 6), 2, 4, 0}, {even(3, 1, 6), 2, 4, 1},
		// Both are in the middle, but it is not known who is ahead.
		{of(1, 1, list(10), list(20), list(20), list(30)), 1, 2, 2}, {of(1, 1, list(10), list(20), list(20), list(30)), 0, 3, 2},
		// Two who are both ahead do not meet.
		{of(1, 1, list(10), list(10), list(20), list(20)), 0, 1, 0}, {of(1, 1, list(10), list(10), list(20), list(20)), 0, 2, 1},
		// The pair 0 can be first, and the pair 1 last, but not both at once.
		{of(1, 1, list(50, 52), list(50, 52), list(51)), 0, 1, 0}, {of(1, 1, list(50, 52), list(50, 52), list(51)), 0, 2, 1},
	} {
		for _, two := range [][2]int{{x.pair, x.other}, {x.other, x.pair}} {
			if n, e := chase.Meet(x.c, two[0], two[1]); n != x.want || e != api.OK {
				t.Error(i, two, n, e)
			}
		}
	}
}

// P7.7: the chapter's examples; a final that is settled, one that the time of just one pair settles, whichever it is, and one that no single time settles.
func TestAsk(t *testing.T) {
	for i, x := range []struct {
		c    api.Chase
		pair int
		e    api.Errno
	}{
		{exampleC(), 0, api.ErrNone}, {exampleD(), 0, api.OK}, {of(3, 1, list(7)), 0, api.ErrRefuse}, {even(3, 6, 6), 0, api.ErrRefuse}, {even(0, 3, 6), 0, api.ErrRefuse}, {even(3, 3, 6), 0, api.ErrNone}, {even(1, 1, 2), 0, api.ErrNone},
		// The time of the one settles it, but not that of the other one.
		{of(1, 1, list(52, 50), list(51)), 1, api.OK}, {of(1, 1, list(51), list(52, 50)), 0, api.OK}, {of(1, 1, list(50, 51), list(49, 50)), 0, api.ErrNone},
		// Other pairs surely come, or do not.
		{of(1, 2, list(10), list(52, 50), list(51), list(90)), 2, api.OK}, {of(1, 3, list(10), list(20), list(90), list(52, 50), list(51)), 4, api.OK},
		// Not all of the times settle it; or all of them do.
		{of(2, 1, list(52), list(51)), 0, api.ErrNone}, {of(2, 1, list(52), list(51, 54)), 0, api.ErrNone}, {of(2, 1, list(52), list(51, 55)), 0, api.OK},
		// With one time known it is still not settled between the others; or one of them surely does not come in.
		{of(1, 2, list(50), list(50), list(50)), 0, api.ErrNone}, {of(1, 1, list(50, 52), list(50, 52), list(51)), 2, api.OK},
	} {
		if pair, e := chase.Ask(x.c); pair != x.pair || e != x.e {
			t.Error(i, pair, e)
		}
	}
}

// The example 7 of the document.
func TestDocument(t *testing.T) {
	in, out := must(chase.Final(exampleC(), 0))(t), must(chase.Final(exampleC(), 2))(t)
	if cut := must(chase.Cut(exampleC()))(t); in != api.ChaseAlways || out != api.ChaseNever || cut != span(50, 52) {
		t.Error(in, out, cut)
	}
}

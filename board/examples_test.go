package board_test

import (
	"slices"
	"testing"

	"lapworks/api"
	"lapworks/board"
)

// free is a sprint of which nothing was seen.
func free() api.Sprint { return api.Sprint{} }

// level returns a board of so many pairs of which each has one lap.
func level(pairs int, points []int, all ...api.Sprint) api.Board {
	var sheet []int
	for pair := range pairs {
		sheet = append(sheet, pair)
	}
	return with(sheets(pairs, sheet), points, all...)
}

// two is a board of two pairs with sheets that leave open who of them has more laps, and no passing that settles it.
func two() api.Board { return sheets(2, list(0, 1), list(1, 0)) }

// P8.1: the chapter's examples; more laps are more than any points, points are where laps are as many, and level is not ahead.
func TestAhead(t *testing.T) {
	first := seen(list([2]int{0, 1}))
	for i, x := range []struct {
		b           api.Board
		pair, other int
		want        int
	}{
		{exampleB(), 0, 1, 2}, {exampleB(), 1, 0, 0}, {exampleB(), 2, 1, 1}, {exampleB(), 0, 2, 1}, {exampleB(), 1, 2, 1}, {exampleB(), 2, 0, 1},
		{exampleE(), 0, 1, 2}, {exampleE(), 0, 2, 2}, {exampleE(), 1, 2, 2}, {exampleE(), 1, 0, 0}, {exampleE(), 2, 0, 0}, {exampleE(), 2, 1, 0},
		{exampleL(), 0, 1, 2}, {exampleL(), 0, 2, 1}, {exampleL(), 2, 0, 1}, {exampleL(), 1, 0, 0},
		// One lap is more than all points.
		{with(sheets(2, list(1)), list(50), double(first), double(first), double(first), double(first)), 1, 0, 2},
		{with(sheets(2, list(1)), list(50), double(first), double(first), double(first), double(first)), 0, 1, 0},
		// Level in each truth, or in some of them, and never ahead.
		{level(2, nil), 0, 1, 0}, {level(2, list(7, 7), free()), 1, 0, 0}, {level(2, list(7), first, seen(list([2]int{1, 0}))), 0, 1, 0},
		{level(3, list(1), seen(list([2]int{0, 1}))), 0, 1, 1}, {level(3, list(1), seen(list([2]int{0, 1}))), 1, 0, 0},
		{level(2, list(2, 1), free()), 0, 1, 1}, {level(2, list(2, 1), free()), 1, 0, 1}, {level(2, list(2, 1), first), 0, 1, 2}, {level(2, list(2, 1), first), 1, 0, 0},
		// As many laps in some truth: then points have to do it, in both ways.
		{with(sheets(2, list(0, 1), list(0, 0)), list(2, 1), first), 0, 1, 2}, {with(sheets(2, list(0, 1), list(0, 0)), list(2, 1), seen(list([2]int{1, 0}))), 0, 1, 1},
		{with(sheets(2, list(0, 1), list(0, 0)), list(2, 1), seen(list([2]int{1, 0}))), 1, 0, 1}, {with(sheets(2, list(0, 1), list(0, 0)), list(2, 2), free()), 0, 1, 1}, {with(sheets(2, list(0, 1), list(0, 0)), list(2, 2), free()), 1, 0, 0},
		{sheets(2, list(0)), 0, 1, 2}, {sheets(2, list(0)), 1, 0, 0}, {two(), 0, 1, 1}, {two(), 1, 0, 1}, {sheets(4, nil), 3, 2, 0},
		// Truths with more laps and with fewer, however the points are.
		{with(two(), list(9), first), 0, 1, 1}, {with(two(), list(9), first), 1, 0, 1},
	} {
		if n, e := board.Ahead(x.b, x.pair, x.other); n != x.want || e != api.OK {
			t.Error(i, n, e)
		}
	}
}

// P8.2: the chapter's examples; laps and points, each for itself.
func TestGap(t *testing.T) {
	for i, x := range []struct {
		b            api.Board
		pair, other  int
		laps, points api.Span
	}{
		{exampleB(), 2, 1, span(0, 2), span(-1, 3)}, {exampleB(), 1, 2, span(-2, 0), span(-3, 1)}, {exampleB(), 0, 1, span(0, 1), span(1, 3)}, {exampleB(), 0, 2, span(-1, 0), span(-2, 3)},
		{exampleL(), 0, 2, span(0, 0), span(-2, 3)}, {exampleE(), 0, 2, span(2, 2), span(-2, 3)},
		{two(), 0, 1, span(-2, 2), span(0, 0)}, {sheets(4, list(3, 3, 3, 3, 3, 3)), 3, 1, span(6, 6), span(0, 0)}, {sheets(4, list(3, 3, 3, 3, 3, 3)), 1, 3, span(-6, -6), span(0, 0)},
		{level(2, list(50), double(free()), double(free()), double(free()), double(free())), 0, 1, span(0, 0), span(-400, 400)},
		{level(2, list(50, 20), free(), double(seen(list([2]int{1, 0})))), 0, 1, span(0, 0), span(-90, -30)},
	} {
		if laps, points, e := board.Gap(x.b, x.pair, x.other); laps != x.laps || points != x.points || e != api.OK {
			t.Error(i, laps, points, e)
		}
	}
}

// P8.3, P8.4: the chapter's examples; several can lead for sure if they are level, and nobody needs to.
func TestRankAndLeads(t *testing.T) {
	for i, x := range []struct {
		b               api.Board
		ranks           []api.Span
		surely, perhaps int
	}{
		{exampleB(), list(span(0, 1), span(1, 2), span(0, 2)), 0, 5}, {exampleE(), list(span(0, 0), span(1, 1), span(2, 2)), 1, 1}, {exampleL(), list(span(0, 1), span(1, 2), span(0, 2)), 0, 5},
		{sheets(1, nil), list(span(0, 0)), 1, 1}, {sheets(1, list(0, 0)), list(span(0, 0)), 1, 1}, {two(), list(span(0, 1), span(0, 1)), 0, 3},
		{sheets(4, nil), list(span(0, 3), span(0, 3), span(0, 3), span(0, 3)), 15, 15}, {sheets(3, list(2)), list(span(1, 2), span(1, 2), span(0, 0)), 4, 4}, {sheets(3, list(2, 0)), list(span(0, 1), span(2, 2), span(0, 1)), 5, 5},
		{sheets(4, list(3, 3, 3, 2, 2, 1)), list(span(3, 3), span(2, 2), span(1, 1), span(0, 0)), 8, 8},
		// Level, or ahead: the pair 0 surely leads, the pair 1 perhaps, though nobody is ahead of anybody for sure.
		{level(2, list(7, 7), free()), list(span(0, 1), span(0, 1)), 3, 3}, {with(sheets(2, list(0, 1), list(0, 0)), nil), list(span(0, 1), span(0, 1)), 1, 3},
		{level(3, list(1), seen(list([2]int{0, 1}), placed(2, 2, 2))), list(span(0, 0), span(1, 2), span(1, 2)), 1, 1}, {level(3, list(1), seen(list([2]int{0, 1}))), list(span(0, 2), span(0, 2), span(0, 2)), 0, 7},
		// Somebody is ahead of the pair 2 in each truth, but it is not always the same one.
		{level(3, list(5), seen(nil, placed(2, 1, 2))), list(span(0, 2), span(0, 2), span(0, 2)), 0, 7},
	} {
		for pair, want := range x.ranks {
			if s, e := board.Rank(x.b, pair); s != want || e != api.OK {
				t.Error("Rank", i, pair, s, e)
			}
		}
		if surely, perhaps, e := board.Leads(x.b); surely != x.surely || perhaps != x.perhaps || e != api.OK {
			t.Error("Leads", i, surely, perhaps, e)
		}
	}
}

// P8.5: the chapter's examples; level pairs are in no order, and all orders there can be.
func TestOrderAndOrders(t *testing.T) {
	for i, x := range []struct {
		b     api.Board
		many  int
		first []int
	}{
		{exampleB(), 3, list(0, 1, 2)}, {exampleE(), 1, list(0, 1, 2)}, {exampleL(), 3, list(0, 1, 2)}, {sheets(1, nil), 1, list(0)}, {two(), 2, list(0, 1)},
		{sheets(2, list(1)), 1, list(1, 0)}, {sheets(4, nil), 24, list(0, 1, 2, 3)}, {sheets(4, list(3, 3, 3, 2, 2, 1)), 1, list(3, 2, 1, 0)}, {sheets(4, list(2, 2, 2, 0, 0, 3)), 1, list(2, 0, 3, 1)},
		{sheets(3, list(2)), 2, list(2, 0, 1)}, {sheets(4, list(3, 2)), 4, list(2, 3, 0, 1)}, {sheets(4, list(3)), 6, list(3, 0, 1, 2)}, {sheets(4, list(1, 2, 3)), 6, list(1, 2, 3, 0)},
		{level(4, list(4, 3, 2, 1), seen(list([2]int{3, 0}, [2]int{2, 1}))), 6, list(2, 1, 3, 0)}, {level(4, list(4, 3, 2, 1), seen(list([2]int{3, 2}, [2]int{2, 1}, [2]int{1, 0}))), 1, list(3, 2, 1, 0)},
		{level(4, list(4, 3, 2, 1), seen(list([2]int{3, 1}))), 12, list(0, 2, 3, 1)},
	} {
		if many, first, e := board.Orders(x.b); many != x.many || !slices.Equal(first, x.first) || e != api.OK {
			t.Error("Orders", i, many, first, e)
		}
		want, wantError := []int(nil), api.ErrDoubt
		if x.many == 1 {
			want, wantError = x.first, api.OK
		}
		if order, e := board.Order(x.b); !slices.Equal(order, want) || e != wantError {
			t.Error("Order", i, order, e)
		}
	}
}

// P8.6: the chapter's examples; laps before points, the widest sprint, of several the first one, and nothing if nothing would settle it.
func TestSettle(t *testing.T) {
	closed := seen(list([2]int{0, 1}))
	for i, x := range []struct {
		b            api.Board
		pair, other  int
		kind, number int
		e            api.Errno
	}{
		{exampleB(), 2, 1, 1, 1, api.OK}, {exampleB(), 1, 2, 1, 1, api.OK}, {exampleB(), 0, 1, 0, 0, api.ErrRefuse}, {exampleB(), 1, 0, 0, 0, api.ErrRefuse}, {exampleB(), 2, 0, 1, 1, api.OK}, {exampleL(), 0, 2, 2, 0, api.OK}, {exampleL(), 2, 0, 2, 0, api.OK},
		// Who has more laps cannot be settled by a passing.
		{two(), 0, 1, 0, 0, api.ErrNone}, {two(), 1, 0, 0, 0, api.ErrNone}, {with(two(), list(9), free()), 0, 1, 0, 0, api.ErrNone},
		// It is settled who has more laps, but not who is ahead.
		{level(2, list(5, 3), free()), 0, 1, 2, 0, api.OK}, {level(2, list(5, 3), closed, free()), 0, 1, 2, 1, api.OK}, {level(2, list(5, 3), free(), double(free())), 0, 1, 2, 1, api.OK}, {level(2, list(5, 3), free(), double(free()), double(free()), free()), 1, 0, 2, 1, api.OK},
		{level(2, list(5, 3), double(closed), free(), free()), 0, 1, 2, 1, api.OK}, {level(3, list(5, 3, 2), seen(nil, placed(2, 0, 0)), free(), seen(nil, placed(2, 1, 1))), 0, 1, 2, 1, api.OK}, {level(3, list(5, 3, 2), seen(nil, placed(2, 0, 0)), seen(nil, placed(2, 2, 2)), seen(nil, placed(2, 1, 1))), 1, 0, 2, 2, api.OK},
		// A pair that is never ahead of the other one, but level with it in some truth.
		{level(3, list(5), closed), 0, 1, 2, 0, api.OK}, {level(3, list(5), closed), 1, 0, 2, 0, api.OK}, {sheets(2, list(0, 1), list(0, 0)), 0, 1, 1, 1, api.OK},
		// As many laps in some truth, and then surely more points: it is settled, though it is not who has more laps.
		{with(sheets(2, list(0, 1), list(0, 0)), list(2, 1), closed), 0, 1, 0, 0, api.ErrRefuse}, {with(sheets(2, list(0, 1), list(0, 0)), list(2, 1), seen(list([2]int{1, 0}))), 0, 1, 1, 1, api.OK},
		// Level in each truth.
		{level(2, nil), 0, 1, 0, 0, api.ErrRefuse}, {sheets(4, nil), 1, 3, 0, 0, api.ErrRefuse}, {level(2, list(5, 5), free(), free()), 0, 1, 0, 0, api.ErrRefuse}, {level(2, list(5), closed, seen(list([2]int{1, 0}))), 0, 1, 0, 0, api.ErrRefuse}, {sheets(2, list(1), list(1)), 0, 1, 0, 0, api.ErrRefuse},
	} {
		if kind, number, e := board.Settle(x.b, x.pair, x.other); kind != x.kind || number != x.number || e != x.e {
			t.Error(i, kind, number, e)
		}
	}
}

// P8.7: the chapter's examples; nothing is needed with more laps, and no number is enough with fewer.
func TestNeed(t *testing.T) {
	first := seen(list([2]int{0, 1}))
	for i, x := range []struct {
		b           api.Board
		pair, other int
		want        int
		e           api.Errno
	}{
		{exampleB(), 0, 1, 0, api.OK}, {exampleB(), 2, 1, 2, api.OK}, {exampleB(), 2, 0, 4, api.OK}, {exampleB(), 0, 2, 0, api.ErrNone}, {exampleB(), 1, 0, 0, api.ErrNone}, {exampleB(), 1, 2, 0, api.ErrNone},
		{exampleL(), 0, 2, 3, api.OK}, {exampleL(), 2, 0, 4, api.OK}, {exampleL(), 1, 0, 4, api.OK}, {exampleL(), 0, 1, 0, api.OK}, {exampleE(), 0, 2, 0, api.OK}, {exampleE(), 2, 0, 0, api.ErrNone},
		// With more laps for sure no points are needed, however many fewer it has.
		{with(sheets(2, list(1)), list(50), first), 1, 0, 0, api.OK}, {with(sheets(2, list(1)), list(50), first), 0, 1, 0, api.ErrNone},
		// Level is not ahead.
		{level(2, nil), 0, 1, 1, api.OK}, {sheets(4, nil), 3, 0, 1, api.OK}, {level(2, list(5), first), 0, 1, 0, api.OK}, {level(2, list(5), first), 1, 0, 6, api.OK},
		{level(2, list(50), double(first), double(first), double(first), double(first)), 1, 0, 401, api.OK}, {two(), 0, 1, 0, api.ErrNone}, {two(), 1, 0, 0, api.ErrNone},
		{with(sheets(2, list(0, 1), list(0, 0)), list(5), seen(list([2]int{1, 0}))), 0, 1, 6, api.OK}, {with(sheets(2, list(0, 1), list(0, 0)), list(5), first), 0, 1, 0, api.OK}, {with(sheets(2, list(0, 1), list(0, 0)), list(5), first), 1, 0, 0, api.ErrNone},
	} {
		if n, e := board.Need(x.b, x.pair, x.other); n != x.want || e != x.e {
			t.Error(i, n, e)
		}
	}
}

// P8.1, P8.7, example 8 of the document: the pair 2 would surely be ahead of the pair 1 with two points more.
func TestTwoPointsMore(t *testing.T) {
	// The pair 2 gets two points more if it is just before the pair 1 in one more sprint.
	b := exampleB()
	b.Sprints.List = append(b.Sprints.List, seen(nil, placed(2, 0, 0), placed(1, 1, 1)))
	if n := must(board.Ahead(exampleB(), 2, 1))(t); n != api.BoardPerhaps {
		t.Error(n)
	}
	if n := must(board.Ahead(b, 2, 1))(t); n != api.BoardAlways {
		t.Error(n)
	}
	if n := must(board.Ahead(exampleB(), 0, 1))(t); n != api.BoardAlways {
		t.Error(n)
	}
}

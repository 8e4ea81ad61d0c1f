package count_test

import (
	"slices"
	"testing"

	"lapworks/api"
	"lapworks/count"
)

// P1.1: the chapter's examples, one sheet, empty sheets, and a further sheet that has errors by all truths.
func TestFewest(t *testing.T) {
	for i, x := range []struct {
		c    api.Count
		want int
		e    api.Errno
	}{
		{exampleC(), 1, api.OK}, {exampleD(), 2, api.OK}, {exampleE(), 2, api.OK},
		{counted(2, list(1, 0, 1)), 0, api.OK},
		{counted(1, nil), 0, api.OK},
		{counted(1, nil, list(0, 0, 0, 0, 0, 0)), 6, api.OK},
		{counted(3, list(0, 1, 2), list(0, 2, 2), list(0)), 3, api.OK},
		{counted(4, list(0, 0, 0, 0, 0, 0), list(1, 1, 1, 1, 1, 1), list(2, 2, 2, 2, 2, 2), list(3, 3, 3, 3, 3, 3)), 18, api.OK},
		{clashing(), 0, api.ErrClash},
	} {
		if n, e := count.Fewest(x.c); n != x.want || e != x.e {
			t.Error(i, n, e)
		}
	}
}

// P1.2: how many truths there are.
func TestCount(t *testing.T) {
	for i, x := range []struct {
		c    api.Count
		want int
	}{
		{exampleC(), 2}, {exampleD(), 6}, {exampleE(), 1},
		{counted(1, nil), 1}, {counted(4, nil, nil, nil, nil), 1},
		{counted(2, list(0, 0, 0), list(1, 1, 1)), 8},
		{clashing(), 0}, {with(clashing(), nil), 0},
	} {
		if n, e := count.Count(x.c); n != x.want || e != api.OK {
			t.Error(i, n, e)
		}
	}
}

// P1.2: the first truth, also if it is the beginning of another one, or empty.
func TestFirst(t *testing.T) {
	for i, x := range []struct {
		c    api.Count
		want []int
		e    api.Errno
	}{
		{exampleC(), list(0, 1, 2), api.OK}, {exampleD(), list(0, 0), api.OK}, {exampleE(), list(0, 1, 0), api.OK},
		{counted(1, nil), nil, api.OK}, {counted(1, []int{}, nil), nil, api.OK},
		{counted(2, list(0, 1), list(1, 0), list(0, 1)), list(0, 1), api.OK},
		{counted(3, list(2, 1)), list(2, 1), api.OK},
		{clashing(), nil, api.ErrClash},
	} {
		if l, e := count.First(x.c); !slices.Equal(l, x.want) || e != x.e {
			t.Error(i, l, e)
		}
	}
}

// P1.2: whether a race is a truth, of any length, and of a count without a truth.
func TestIs(t *testing.T) {
	for i, x := range []struct {
		c    api.Count
		race []int
		want bool
	}{
		{exampleC(), list(0, 2, 2), true}, {exampleC(), list(0, 1, 2), true}, {exampleC(), list(0, 0, 2), false},
		{exampleC(), nil, false}, {exampleC(), list(0, 1, 2, 2), false},
		{exampleD(), list(0, 0), true}, {exampleD(), list(0, 1), true}, {exampleD(), list(0, 1, 0), true},
		{exampleD(), list(1, 0), true}, {exampleD(), list(1, 0, 1), true}, {exampleD(), list(1, 1), true},
		{exampleD(), list(0, 1, 0, 1), false}, {exampleD(), list(0), false},
		{exampleE(), list(0, 1), false}, {exampleE(), list(0, 1, 0), true},
		{counted(1, nil), []int{}, true}, {counted(1, nil), nil, true},
		{counted(1, list(0)), make([]int, 1<<16), false},
		{clashing(), list(0, 1, 0), false}, {clashing(), nil, false},
	} {
		if is, e := count.Is(x.c, x.race); is != x.want || e != api.OK {
			t.Error(i, is, e)
		}
	}
}

// P1.3: the set of the numbers of laps.
func TestLaps(t *testing.T) {
	for i, x := range []struct {
		c          api.Count
		pair, want int
	}{
		{exampleC(), 0, 1 << 1}, {exampleC(), 1, 1<<0 | 1<<1}, {exampleC(), 2, 1<<1 | 1<<2},
		{exampleD(), 0, 7}, {exampleD(), 1, 7}, {exampleE(), 0, 1 << 2}, {exampleE(), 1, 1 << 1},
		{counted(2, nil), 1, 1 << 0}, {counted(1, list(0, 0, 0, 0, 0, 0)), 0, 1 << 6},
	} {
		if n, e := count.Laps(x.c, x.pair); n != x.want || e != api.OK {
			t.Error(i, n, e)
		}
	}
}

// P1.4: by how many laps one is ahead, from either side.
func TestLead(t *testing.T) {
	for i, x := range []struct {
		c           api.Count
		pair, other int
		want        api.Span
	}{
		{exampleC(), 2, 1, span(0, 2)}, {exampleC(), 1, 2, span(-2, 0)}, {exampleC(), 0, 1, span(0, 1)},
		{exampleD(), 0, 1, span(-2, 2)}, {exampleE(), 0, 1, span(1, 1)}, {exampleE(), 1, 0, span(-1, -1)},
		{counted(2, nil), 0, 1, span(0, 0)}, {counted(2, list(1, 1, 1, 1, 1, 1)), 0, 1, span(-6, -6)},
	} {
		if s, e := count.Lead(x.c, x.pair, x.other); s != x.want || e != api.OK {
			t.Error(i, s, e)
		}
	}
}

// P1.5: which passing settles it; also one that some truths are too short to have, which are alike then, but not like those in which any pair has it.
func TestSettle(t *testing.T) {
	for i, x := range []struct {
		c           api.Count
		pair, other int
		want        int
		e           api.Errno
	}{
		{exampleC(), 1, 2, 1, api.OK}, {exampleC(), 2, 1, 1, api.OK}, {exampleC(), 0, 1, 1, api.OK},
		{exampleD(), 0, 1, 0, api.ErrNone}, {exampleE(), 0, 1, 0, api.ErrRefuse},
		{counted(2, list(0)), 0, 1, 0, api.ErrRefuse}, {counted(2, list(0)), 1, 0, 0, api.ErrRefuse}, {counted(2, nil), 0, 1, 0, api.ErrRefuse},
		{counted(4, list(0, 1), list(2, 3)), 0, 2, 0, api.OK}, {counted(4, list(0, 1), list(2, 3)), 1, 3, 1, api.OK}, {counted(4, list(0, 1), list(2, 3)), 1, 2, 0, api.ErrNone},
		{counted(3, list(1, 0, 2), list(2, 1, 1), list(2, 1, 0)), 0, 1, 3, api.OK},
		{counted(4, list(2, 3, 1), list(3, 2, 1, 3), list(1, 3, 1)), 3, 1, 4, api.OK},
		{counted(2, list(1, 0, 1, 0, 0, 0), list(0, 0, 0, 1, 1, 0), list(1, 1, 0, 0, 1, 1)), 1, 0, 6, api.OK},
		{counted(3, list(1, 0, 2, 2, 1), list(2, 1, 0, 2, 1, 0), list(1, 0, 2, 1, 2, 1)), 1, 0, 6, api.OK},
	} {
		if n, e := count.Settle(x.c, x.pair, x.other); n != x.want || e != x.e {
			t.Error(i, n, e)
		}
	}
}

// P1.6: how many errors a counter made.
func TestErrors(t *testing.T) {
	for i, x := range []struct {
		c     api.Count
		sheet int
		want  api.Span
	}{
		{exampleC(), 0, span(0, 1)}, {exampleC(), 1, span(0, 1)},
		{exampleD(), 0, span(0, 2)}, {exampleD(), 1, span(0, 2)}, {exampleE(), 0, span(1, 1)}, {exampleE(), 1, span(1, 1)}, {exampleE(), 2, span(0, 0)},
		{counted(2, list(1, 0)), 0, span(0, 0)}, {counted(2, nil, list(1, 1)), 0, span(2, 2)}, {counted(2, nil, list(1, 1)), 1, span(0, 0)},
		{counted(2, list(0, 1), list(0, 1), list(1), nil), 3, span(2, 2)},
	} {
		if s, e := count.Errors(x.c, x.sheet); s != x.want || e != api.OK {
			t.Error(i, s, e)
		}
	}
}

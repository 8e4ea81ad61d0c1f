package spill_test

import (
	"slices"
	"testing"

	"lapworks/api"
	"lapworks/spill"
)

// P5.1: the chapter's examples; which of several reports stands, and what is none of its own is 0 in it.
func TestMerge(t *testing.T) {
	f, g := fall(5, span(4, 6), span(2, 4)), gain(5, 2, span(4, 6))
	for i, x := range []struct{ a, b, want []api.SpillReport }{
		{exampleJ(), exampleK(), joined(exampleK(), exampleJ()[1:])}, {exampleK(), exampleJ(), joined(exampleK(), exampleJ()[1:])},
		{exampleJ(), nil, exampleJ()}, {nil, exampleK(), exampleK()}, {nil, nil, nil},
		// By the Ids, and each once.
		{list(gain(31, 0, span(1, 1)), gain(4, 0, span(2, 2))), list(gain(9, 0, span(3, 3)), gain(0, 0, span(4, 4))), list(gain(0, 0, span(4, 4)), gain(4, 0, span(2, 2)), gain(9, 0, span(3, 3)), gain(31, 0, span(1, 1)))},
		{list(f, f), list(f), list(f)}, {list(gain(7, 1, span(0, 0)), gain(3, 1, span(0, 0)), gain(7, 1, span(0, 0))), nil, list(gain(3, 1, span(0, 0)), gain(7, 1, span(0, 0)))},
		// The version, then the kind, then the other numbers, one after the other.
		{list(version(1, fall(5, span(0, 0), span(1, 1)))), list(loss(5, 3, span(50, 50))), list(version(1, fall(5, span(0, 0), span(1, 1))))},
		{list(version(9, f)), list(version(8, g)), list(version(9, f))},
		{list(fall(5, span(50, 50), span(10, 10))), list(gain(5, 0, span(0, 0))), list(gain(5, 0, span(0, 0)))},
		{list(gain(5, 3, span(50, 50))), list(loss(5, 0, span(0, 0))), list(loss(5, 0, span(0, 0)))},
		{list(fall(5, span(4, 7), span(9, 9))), list(fall(5, span(5, 5), span(1, 1))), list(fall(5, span(5, 5), span(1, 1)))},
		{list(fall(5, span(4, 5), span(9, 9))), list(fall(5, span(4, 6), span(1, 1))), list(fall(5, span(4, 6), span(1, 1)))},
		{list(fall(5, span(4, 6), span(2, 5))), list(fall(5, span(4, 6), span(3, 3))), list(fall(5, span(4, 6), span(3, 3)))},
		{list(f), list(fall(5, span(4, 6), span(2, 5))), list(fall(5, span(4, 6), span(2, 5)))},
		{list(gain(5, 3, span(4, 6))), list(gain(5, 0, span(5, 5))), list(gain(5, 0, span(5, 5)))},
		{list(gain(5, 3, span(4, 6))), list(gain(5, 0, span(4, 7))), list(gain(5, 0, span(4, 7)))},
		{list(g), list(gain(5, 3, span(4, 6))), list(gain(5, 3, span(4, 6)))}, {list(loss(5, 1, span(4, 6))), list(loss(5, 0, span(4, 6))), list(loss(5, 1, span(4, 6)))},
	} {
		for _, two := range [][2][]api.SpillReport{{x.a, x.b}, {x.b, x.a}, {joined(x.a, x.b), nil}, {nil, joined(x.b, x.a)}} {
			if l, e := spill.Merge(two[0], two[1]); !slices.Equal(l, x.want) || e != api.OK {
				t.Error(i, l, e)
			}
		}
	}
}

// many returns gains of so many Ids, from one on.
func many(from, reports int) []api.SpillReport {
	var l []api.SpillReport
	for i := range reports {
		l = append(l, gain(from+i, i%api.SpillPairs, span(i, i)))
	}
	return l
}

// P5.1: there is room for as many reports, and falls, as a journal can have.
func TestMergeFull(t *testing.T) {
	f := func(id, v int) api.SpillReport { return version(v, fall(id, span(id, id), span(1, 1))) }
	for i, x := range []struct {
		a, b []api.SpillReport
		want int
		e    api.Errno
	}{
		{many(0, 6), many(6, 6), 12, api.OK}, {many(0, 6), many(6, 7), 0, api.ErrFull}, {many(0, 12), many(20, 12), 0, api.ErrFull},
		// Both together can have more than stand.
		{many(0, 12), many(0, 12), 12, api.OK}, {many(0, 12), many(1, 11), 12, api.OK}, {many(0, 12), many(1, 12), 0, api.ErrFull},
		{list(f(0, 0), f(1, 0)), list(f(2, 0)), 3, api.OK}, {list(f(0, 0), f(1, 0)), list(f(2, 0), f(3, 0)), 0, api.ErrFull},
		{list(f(0, 0), f(1, 0), f(2, 0)), list(f(0, 0), f(1, 1), f(2, 0)), 3, api.OK},
		// What is corrected is a fall no more, or is one only then.
		{list(f(0, 0), f(1, 0), f(2, 0)), list(f(3, 0), version(1, gain(0, 0, span(0, 0)))), 4, api.OK},
		{list(f(0, 0), f(1, 0), f(2, 0), gain(3, 0, span(0, 0))), list(f(3, 1)), 0, api.ErrFull},
		{list(f(0, 0), f(1, 0), f(2, 0), version(2, gain(3, 0, span(0, 0)))), list(f(3, 1)), 4, api.OK},
	} {
		if l, e := spill.Merge(x.a, x.b); len(l) != x.want || e != x.e {
			t.Error(i, l, e)
		}
		if l, e := spill.Merge(x.b, x.a); len(l) != x.want || e != x.e {
			t.Error(i, l, e)
		}
	}
}

// P5.2: the chapter's examples; what is there already, or what something greater is there for, is not sent.
func TestSend(t *testing.T) {
	f := func(id int) api.SpillReport { return fall(id, span(0, 0), span(1, 1)) }
	for i, x := range []struct{ from, to, want []api.SpillReport }{
		{exampleK(), exampleJ(), exampleK()}, {exampleJ(), exampleK(), exampleJ()[1:]},
		{exampleJ(), exampleJ(), nil}, {exampleJ(), nil, exampleJ()}, {nil, exampleJ(), nil}, {nil, nil, nil},
		{joined(exampleJ(), exampleK()), exampleJ(), exampleK()}, {joined(exampleJ(), exampleK()), exampleK(), exampleJ()[1:]},
		{exampleJ(), joined(exampleJ(), exampleK()), nil},
		{list(gain(9, 0, span(1, 1)), gain(3, 0, span(1, 1)), gain(9, 0, span(1, 1))), nil, list(gain(3, 0, span(1, 1)), gain(9, 0, span(1, 1)))},
		// Of what is there, only what stands is.
		{list(gain(3, 0, span(1, 1))), list(gain(3, 0, span(0, 0)), gain(3, 0, span(2, 2))), nil},
		{list(gain(3, 0, span(1, 1))), list(gain(3, 0, span(0, 0))), list(gain(3, 0, span(1, 1)))},
		{list(gain(3, 1, span(1, 1))), list(gain(3, 0, span(1, 1))), list(gain(3, 1, span(1, 1)))}, {list(gain(3, 0, span(1, 1))), list(gain(3, 1, span(1, 1))), nil},
		{list(f(0)), list(gain(0, 0, span(0, 0))), nil}, {list(gain(0, 0, span(0, 0))), list(f(0)), list(gain(0, 0, span(0, 0)))},
		// Both together can be too many.
		{many(12, 12), many(0, 12), many(12, 12)}, {list(f(0), f(1), f(2)), list(f(3), f(4)), list(f(0), f(1), f(2))},
	} {
		if l, e := spill.Send(x.from, x.to); !slices.Equal(l, x.want) || e != api.OK {
			t.Error(i, l, e)
		}
	}
}

// P5.3: the chapter's examples; no falls, falls that nothing is surely void by, the last laps, and falls side by side.
func TestVoid(t *testing.T) {
	one := func(at, laps api.Span) []api.SpillReport { return list(fall(0, at, laps)) }
	two := func(a, b int) []api.SpillReport {
		return list(fall(0, span(a, a), span(3, 3)), fall(1, span(b, b), span(2, 2)))
	}
	for i, x := range []struct {
		l           []api.SpillReport
		void, could []api.Span
	}{
		{exampleJ(), list(span(11, 12)), list(span(10, 14))}, {joined(exampleJ(), exampleK()), list(span(10, 12)), list(span(10, 12))},
		{nil, nil, nil}, {many(0, 12), nil, nil},
		{one(span(0, 0), span(1, 1)), list(span(0, 0)), list(span(0, 0))}, {one(span(0, 3), span(1, 4)), nil, list(span(0, 6))}, {one(span(4, 7), span(3, 3)), nil, list(span(4, 9))}, {one(span(4, 7), span(4, 4)), list(span(7, 7)), list(span(4, 10))},
		{one(span(50, 50), span(10, 10)), list(span(50, 59)), list(span(50, 59))}, {one(span(47, 50), span(7, 10)), list(span(50, 53)), list(span(47, 59))},
		// As few spans as can be.
		{two(5, 8), list(span(5, 9)), list(span(5, 9))}, {two(5, 9), list(span(5, 7), span(9, 10)), list(span(5, 7), span(9, 10))}, {two(5, 6), list(span(5, 7)), list(span(5, 7))}, {two(8, 6), list(span(6, 10)), list(span(6, 10))},
		{two(20, 2), list(span(2, 3), span(20, 22)), list(span(2, 3), span(20, 22))},
		{list(fall(3, span(10, 12), span(2, 3)), fall(2, span(13, 14), span(2, 4)), fall(1, span(1, 1), span(1, 2))), list(span(1, 1), span(14, 14)), list(span(1, 2), span(10, 17))},
		// Some fall makes the lap 5 void in each truth but one.
		{list(fall(0, span(4, 5), span(1, 1)), fall(1, span(5, 6), span(1, 1))), nil, list(span(4, 6))},
		// A fall that does not stand makes no lap void.
		{list(fall(0, span(5, 5), span(9, 9)), version(1, gain(0, 0, span(30, 30)))), nil, nil},
	} {
		if s, e := spill.Void(x.l); !slices.Equal(s, x.void) || e != api.OK {
			t.Error("Void", i, s, e)
		}
		if s, e := spill.Could(x.l); !slices.Equal(s, x.could) || e != api.OK {
			t.Error("Could", i, s, e)
		}
	}
}

// P5.4: the chapter's examples; Ids of falls, of reports that do not stand, and of none.
func TestCounts(t *testing.T) {
	corrected := list(fall(1, span(9, 9), span(3, 3)), version(1, gain(1, 0, span(10, 10))), gain(2, 0, span(10, 10)), version(3, fall(2, span(8, 10), span(2, 2))), loss(3, 0, span(9, 12)))
	for i, x := range []struct {
		l        []api.SpillReport
		id, want int
		e        api.Errno
	}{
		{exampleJ(), 2, 1, api.OK}, {exampleJ(), 3, 2, api.OK}, {exampleJ(), 4, 0, api.OK}, {exampleJ(), 1, 0, api.ErrNone}, {exampleJ(), 0, 0, api.ErrNone}, {exampleJ(), 5, 0, api.ErrNone},
		{joined(exampleJ(), exampleK()), 2, 1, api.OK}, {joined(exampleJ(), exampleK()), 4, 0, api.OK},
		{exampleJ(), -1, 0, api.ErrNone}, {exampleJ(), 32, 0, api.ErrNone}, {nil, 0, 0, api.ErrNone},
		{many(0, 12), 0, 2, api.OK}, {many(0, 12), 11, 2, api.OK}, {many(0, 12), 12, 0, api.ErrNone}, {list(loss(31, 3, span(0, 3))), 31, 2, api.OK},
		{corrected, 1, 1, api.OK}, {corrected, 2, 0, api.ErrNone}, {corrected, 3, 1, api.OK},
		// By two falls together a lap can never count, though by neither alone.
		{list(fall(0, span(4, 4), span(1, 1)), fall(1, span(5, 5), span(1, 1)), gain(2, 0, span(4, 5))), 2, 0, api.OK},
		{list(fall(0, span(4, 4), span(1, 1)), fall(1, span(5, 5), span(1, 1)), loss(2, 0, span(4, 6))), 2, 1, api.OK},
		{list(fall(0, span(5, 6), span(1, 2)), gain(2, 0, span(5, 6))), 2, 1, api.OK}, {list(fall(0, span(5, 6), span(1, 2)), gain(2, 0, span(8, 8))), 2, 2, api.OK}, {list(fall(0, span(5, 6), span(1, 2)), gain(2, 0, span(4, 4))), 2, 2, api.OK},
	} {
		if n, e := spill.Counts(x.l, x.id); n != x.want || e != x.e {
			t.Error(i, n, e)
		}
	}
}

// P5.5: the chapter's examples; gains and losses that depend on the same fall.
func TestBalance(t *testing.T) {
	unsure := func(l ...api.SpillReport) []api.SpillReport {
		return append(l, fall(9, span(10, 12), span(1, 1)))
	}
	for i, x := range []struct {
		l    []api.SpillReport
		want [api.SpillPairs]api.Span
	}{
		{exampleJ(), [4]api.Span{span(1, 2)}}, {joined(exampleJ(), exampleK()), [4]api.Span{span(1, 2)}},
		{nil, [4]api.Span{}}, {many(0, 12), [4]api.Span{span(3, 3), span(3, 3), span(3, 3), span(3, 3)}},
		{unsure(gain(0, 1, span(12, 12))), [4]api.Span{1: span(0, 1)}}, {unsure(loss(0, 3, span(12, 12))), [4]api.Span{3: span(-1, 0)}},
		// Only one of three laps is void, and that is one of the two, or none.
		{unsure(gain(0, 1, span(10, 10)), gain(1, 1, span(11, 11))), [4]api.Span{1: span(1, 2)}}, {unsure(gain(0, 1, span(10, 10)), gain(1, 1, span(10, 10))), [4]api.Span{1: span(0, 2)}},
		{unsure(gain(0, 1, span(10, 10)), loss(1, 1, span(10, 10))), [4]api.Span{}}, {unsure(gain(0, 1, span(10, 10)), loss(1, 1, span(11, 11))), [4]api.Span{1: span(-1, 1)}},
		{unsure(gain(0, 1, span(10, 10)), gain(1, 1, span(11, 11)), gain(2, 1, span(12, 12))), [4]api.Span{1: span(2, 2)}},
		{unsure(gain(0, 2, span(10, 12)), loss(1, 2, span(9, 12)), loss(2, 0, span(40, 43))), [4]api.Span{0: span(-1, -1), 2: span(-1, 1)}},
		{list(version(1, gain(0, 0, span(1, 1))), loss(0, 0, span(1, 1)), gain(1, 0, span(1, 1)), loss(1, 1, span(1, 1))), [4]api.Span{span(1, 1), span(-1, -1)}},
	} {
		for pair, want := range x.want {
			if s, e := spill.Balance(x.l, pair); s != want || e != api.OK {
				t.Error(i, pair, s, e)
			}
		}
	}
}

// P5.6: the chapter's examples; by whatever numbers a report settles it, and reports that do not stand.
func TestAsk(t *testing.T) {
	f := fall(5, span(10, 11), span(1, 2))
	for i, x := range []struct {
		l        []api.SpillReport
		pair, id int
		e        api.Errno
	}{
		{exampleJ(), 0, 0, api.ErrNone}, {joined(exampleJ(), exampleK()), 0, 2, api.OK}, {exampleJ(), 1, 0, api.ErrRefuse}, {nil, 3, 0, api.ErrRefuse},
		// Of a fall both numbers are known then: when it was, and how long the race was neutralised.
		{list(f, gain(7, 2, span(12, 12))), 2, 5, api.OK}, {list(fall(5, span(10, 10), span(1, 2)), gain(7, 2, span(11, 11))), 2, 5, api.OK}, {list(fall(5, span(10, 11), span(1, 1)), gain(0, 2, span(11, 11))), 2, 5, api.OK},
		{list(f, gain(7, 2, span(11, 12))), 2, 0, api.ErrNone}, {list(f, gain(7, 2, span(12, 12)), gain(8, 2, span(40, 43))), 2, 5, api.OK}, {list(f, gain(7, 2, span(12, 12)), loss(4, 2, span(11, 12))), 2, 0, api.ErrNone},
		// The gain settles it, though in different ways.
		{list(fall(5, span(10, 10), span(2, 2)), gain(7, 2, span(9, 12))), 2, 7, api.OK}, {list(fall(5, span(10, 10), span(2, 2)), loss(0, 2, span(11, 12))), 2, 0, api.OK},
		{list(fall(5, span(10, 10), span(2, 2)), gain(7, 2, span(9, 12)), gain(6, 2, span(9, 12))), 2, 0, api.ErrNone},
		// What has a lesser Id has nothing to do with it, or is known exactly.
		{list(fall(8, span(10, 10), span(1, 2)), gain(6, 2, span(11, 11)), fall(3, span(30, 33), span(1, 4))), 2, 8, api.OK},
		{list(fall(8, span(10, 10), span(1, 2)), gain(6, 2, span(11, 11)), gain(0, 2, span(30, 33)), gain(1, 3, span(11, 12))), 2, 8, api.OK},
		{list(fall(2, span(9, 9), span(2, 3)), fall(8, span(11, 11), span(1, 1)), gain(6, 2, span(11, 12))), 2, 6, api.OK},
		// By some of its numbers each of two would settle it, but not by all.
		{list(fall(8, span(9, 9), span(2, 3)), gain(6, 2, span(11, 12)), fall(3, span(12, 12), span(1, 1))), 2, 0, api.ErrNone},
		{list(gain(4, 1, span(10, 11)), fall(3, span(10, 10), span(1, 2)), gain(2, 1, span(11, 11))), 1, 0, api.ErrNone},
		// Known exactly, the report stands still, though another one would be greater then.
		{list(fall(5, span(10, 10), span(2, 2)), gain(7, 2, span(10, 12)), gain(7, 2, span(10, 11))), 2, 7, api.OK},
		{list(fall(5, span(10, 10), span(1, 2)), fall(5, span(10, 10), span(1, 1)), gain(7, 2, span(11, 11))), 2, 5, api.OK},
		{list(gain(0, 2, span(9, 12)), fall(5, span(10, 10), span(2, 2)), version(1, gain(0, 3, span(9, 12))), gain(7, 2, span(9, 12))), 2, 7, api.OK},
	} {
		if id, e := spill.Ask(x.l, x.pair); id != x.id || e != x.e {
			t.Error(i, id, e)
		}
	}
}

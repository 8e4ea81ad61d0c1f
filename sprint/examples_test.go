package sprint_test

import (
	"slices"
	"testing"

	"lapworks/api"
	"lapworks/sprint"
)

// cycle returns a sprint of so many pairs each of which was seen ahead of the next one, and the last one of the first one.
func cycle(pairs int) api.Sprint {
	var s api.Sprint
	for pair := range pairs {
		s.Ahead = append(s.Ahead, [2]int{pair, (pair + 1) % pairs})
	}
	return s
}

// P4.1: the chapter's examples, and sprints of which nothing or all is known.
func TestOrders(t *testing.T) {
	for i, x := range []struct {
		s      api.Sprints
		sprint int
		count  int
		first  []int
		places []int
	}{
		{exampleS(), 0, 3, list(0, 1, 2, 3), list(0b11, 0b110, 0b111, 0b1000)},
		{exampleS(), 1, 6, list(1, 2, 3, 0), list(0b1000, 0b111, 0b111, 0b111)},
		// Another sprint makes no difference.
		{exampleT(), 1, 6, list(1, 2, 3, 0), list(0b1000, 0b111, 0b111, 0b111)},
		{one(1, api.Sprint{}), 0, 1, list(0), list(1)}, {one(1, seen(nil, placed(0, 0, 0))), 0, 1, list(0), list(1)},
		{one(2, api.Sprint{}), 0, 2, list(0, 1), list(3, 3)}, {one(2, seen(list([2]int{1, 0}))), 0, 1, list(1, 0), list(2, 1)},
		{one(6, api.Sprint{}), 0, 720, list(0, 1, 2, 3, 4, 5), list(63, 63, 63, 63, 63, 63)},
		// The same can be seen twice.
		{one(3, seen(list([2]int{2, 0}, [2]int{2, 0}), placed(1, 0, 2), placed(1, 0, 2))), 0, 3, list(1, 2, 0), list(0b110, 0b111, 0b011)},
		// What is seen of others tells where a pair was, and a place is that of all that was seen of it.
		{one(3, seen(nil, placed(0, 0, 1), placed(0, 1, 2))), 0, 2, list(1, 0, 2), list(2, 5, 5)},
		{one(3, seen(nil, placed(0, 0, 1), placed(2, 0, 1))), 0, 2, list(0, 2, 1), list(3, 4, 3)},
		{one(4, seen(list([2]int{3, 2}, [2]int{2, 1}))), 0, 4, list(0, 3, 2, 1), list(0b1111, 0b1100, 0b110, 0b11)},
		// There can be a hole in the set of places.
		{one(3, seen(list([2]int{0, 1}, [2]int{1, 2}))), 0, 1, list(0, 1, 2), list(1, 2, 4)},
		{one(4, seen(nil, placed(1, 1, 1), placed(2, 2, 2))), 0, 2, list(0, 1, 2, 3), list(0b1001, 0b10, 0b100, 0b1001)},
		{one(6, seen(list([2]int{5, 4}, [2]int{4, 3}, [2]int{3, 2}, [2]int{2, 1}, [2]int{1, 0}))), 0, 1, list(5, 4, 3, 2, 1, 0), list(32, 16, 8, 4, 2, 1)},
	} {
		if n, e := sprint.Count(x.s, x.sprint); n != x.count || e != api.OK {
			t.Error("Count", i, n, e)
		}
		if o, e := sprint.First(x.s, x.sprint); !slices.Equal(o, x.first) || e != api.OK {
			t.Error("First", i, o, e)
		}
		for pair, want := range x.places {
			if n, e := sprint.Place(x.s, x.sprint, pair); n != want || e != api.OK {
				t.Error("Place", i, pair, n, e)
			}
		}
	}
	// Without an order there is just the number 0 to be told.
	for _, s := range []api.Sprints{exampleT(), one(2, cycle(2)), one(6, cycle(6)), one(3, seen(nil, placed(0, 1, 1), placed(1, 1, 1)))} {
		if n, e := sprint.Count(s, 0); n != 0 || e != api.OK {
			t.Error("Count", s, n, e)
		}
	}
}

// P4.2: the chapter's examples; fewer and more points than pairs, and no sprints.
func TestPoints(t *testing.T) {
	fixed := one(3, seen(list([2]int{0, 1}, [2]int{1, 2})))
	for i, x := range []struct {
		s    api.Sprints
		want []api.Span
	}{
		{exampleS(), list(span(3, 5), span(6, 13), span(6, 15), span(4, 10))},
		{fixed, list(span(5, 5), span(3, 3), span(1, 1))},
		{changed(fixed, func(s *api.Sprints) { s.List[0].Double = true }), list(span(10, 10), span(6, 6), span(2, 2))},
		{changed(fixed, func(s *api.Sprints) { s.Points = list(4) }), list(span(4, 4), span(0, 0), span(0, 0))},
		{changed(fixed, func(s *api.Sprints) { s.Points = nil }), list(span(0, 0), span(0, 0), span(0, 0))},
		{changed(fixed, func(s *api.Sprints) { s.Points = list(50, 50, 50, 50, 50, 50) }), list(span(50, 50), span(50, 50), span(50, 50))},
		{api.Sprints{Pairs: 2, Points: list(9)}, list(span(0, 0), span(0, 0))},
		{one(2, api.Sprint{}), list(span(3, 5), span(3, 5))}, {one(1, api.Sprint{}), list(span(5, 5))},
		{one(4, seen(nil, placed(1, 1, 1), placed(2, 2, 2))), list(span(0, 5), span(3, 3), span(1, 1), span(0, 5))},
	} {
		for pair, want := range x.want {
			if s, e := sprint.Points(x.s, pair); s != want || e != api.OK {
				t.Error(i, pair, s, e)
			}
		}
	}
}

// P4.2: the chapter's examples; two pairs cannot both be on the same place.
func TestMargin(t *testing.T) {
	free := one(3, api.Sprint{})
	for i, x := range []struct {
		s    api.Sprints
		a, b int
		want api.Span
	}{
		{exampleS(), 1, 0, span(1, 9)}, {exampleS(), 1, 2, span(-9, 7)}, {exampleS(), 3, 0, span(-1, 7)},
		{exampleS(), 0, 1, span(-9, -1)}, {exampleS(), 0, 3, span(-7, 1)},
		{free, 0, 1, span(-4, 4)}, {free, 2, 1, span(-4, 4)}, {one(2, api.Sprint{}), 0, 1, span(-2, 2)}, {one(2, double(api.Sprint{})), 0, 1, span(-4, 4)},
		{one(3, seen(list([2]int{0, 1}))), 0, 1, span(2, 4)}, {one(3, seen(list([2]int{0, 1}, [2]int{1, 2}))), 2, 0, span(-4, -4)},
		{one(3, seen(nil, placed(2, 1, 1))), 0, 1, span(-4, 4)}, {api.Sprints{Pairs: 2, Points: list(9)}, 0, 1, span(0, 0)},
		{changed(free, func(s *api.Sprints) { s.Points = list(7, 7, 7) }), 0, 1, span(0, 0)},
	} {
		if s, e := sprint.Margin(x.s, x.a, x.b); s != x.want || e != api.OK {
			t.Error(i, s, e)
		}
	}
}

// P4.3: the chapter's examples; several can surely have the most points, and nobody needs to.
func TestSure(t *testing.T) {
	for i, x := range []struct {
		s            api.Sprints
		most, beaten int
	}{
		{exampleS(), 0, 1}, {one(1, api.Sprint{}), 1, 0}, {one(2, api.Sprint{}), 0, 0}, {one(2, seen(list([2]int{1, 0}))), 2, 1},
		{one(3, seen(nil, placed(2, 0, 0))), 4, 3}, {one(3, seen(nil, placed(2, 2, 2))), 0, 4}, {one(3, seen(list([2]int{0, 1}))), 0, 2},
		// With as many points nobody is beaten.
		{api.Sprints{Pairs: 6, Points: list(9)}, 63, 0}, {api.Sprints{Pairs: 3, List: list(api.Sprint{})}, 7, 0}, {api.Sprints{Pairs: 3, Points: list(2, 2, 2), List: list(api.Sprint{})}, 7, 0},
		{api.Sprints{Pairs: 3, Points: list(2, 2), List: list(seen(nil, placed(1, 2, 2)))}, 5, 2},
		{api.Sprints{Pairs: 3, Points: list(2, 2), List: list(seen(list([2]int{0, 1})))}, 1, 0},
		// Some other one is ahead of the pair 2 in each truth, but it is not always the same one.
		{api.Sprints{Pairs: 3, Points: list(5), List: list(seen(nil, placed(2, 1, 2)))}, 0, 0},
		// A double sprint is worth more than another one.
		{api.Sprints{Pairs: 2, Points: list(3, 1), List: list(seen(list([2]int{0, 1})), double(seen(list([2]int{1, 0}))))}, 2, 1},
		{api.Sprints{Pairs: 2, Points: list(3, 1), List: list(seen(list([2]int{0, 1})), seen(list([2]int{1, 0})))}, 3, 0},
	} {
		if most, beaten, e := sprint.Sure(x.s); most != x.most || beaten != x.beaten || e != api.OK {
			t.Error(i, most, beaten, e)
		}
	}
}

// P4.4: the chapter's examples; things that clash by two, and by many, the fewest of them, and of several the least number.
func TestClash(t *testing.T) {
	twice := seen(list([2]int{0, 1}, [2]int{0, 1}, [2]int{1, 0}, [2]int{1, 0}))
	for i, x := range []struct {
		s    api.Sprint
		want int
		e    api.Errno
	}{
		{api.Sprint{}, 0, api.ErrNone}, {seen(list([2]int{0, 1}, [2]int{2, 3}), placed(1, 1, 2)), 0, api.ErrNone},
		{twice, 0b101, api.OK}, {cycle(3), 0b111, api.OK}, {cycle(4), 0b1111, api.OK},
		// Nobody can have come before the first place.
		{seen(list([2]int{0, 1}), placed(1, 0, 0)), 0b11, api.OK}, {seen(list([2]int{1, 2}, [2]int{0, 1}), placed(1, 0, 0), placed(0, 3, 3)), 0b110, api.OK},
		{seen(nil, placed(0, 0, 1), placed(0, 2, 3)), 0b11, api.OK}, {seen(nil, placed(0, 2, 2), placed(3, 0, 3), placed(1, 2, 2)), 0b101, api.OK},
		// Three pairs do not have room on two places.
		{seen(nil, placed(0, 0, 1), placed(1, 0, 1), placed(2, 0, 1)), 0b111, api.OK}, {seen(nil, placed(0, 0, 1), placed(0, 0, 1), placed(1, 0, 1), placed(2, 0, 1)), 0b1101, api.OK},
		{seen(list([2]int{0, 3}, [2]int{1, 3}), placed(3, 0, 1)), 0b111, api.OK}, {seen(list([2]int{0, 3}, [2]int{1, 3}), placed(3, 0, 1), placed(2, 1, 1), placed(1, 1, 1)), 0b11000, api.OK},
		// Two are fewer than three, though of a greater number.
		{seen(append(cycle(3).Ahead, [2]int{3, 0}, [2]int{0, 3})), 0b11000, api.OK},
	} {
		if n, e := sprint.Clash(one(4, x.s), 0); n != x.want || e != x.e {
			t.Error(i, n, e)
		}
	}
	if n, e := sprint.Clash(exampleT(), 0); n != 5 || e != api.OK {
		t.Error(n, e)
	}
	if n, e := sprint.Clash(exampleT(), 1); n != 0 || e != api.ErrNone {
		t.Error(n, e)
	}
	if n, e := sprint.Clash(one(6, cycle(6)), 0); n != 63 || e != api.OK {
		t.Error(n, e)
	}
}

// P4.5: the chapter's examples; of equal ones the first two, also if nothing more is to be known of them.
func TestAsk(t *testing.T) {
	for i, x := range []struct {
		s          api.Sprints
		sprint     int
		a, b, most int
		e          api.Errno
	}{
		{exampleS(), 0, 0, 2, 2, api.OK}, {exampleS(), 1, 1, 2, 3, api.OK}, {exampleT(), 1, 1, 2, 3, api.OK},
		{one(1, api.Sprint{}), 0, 0, 0, 0, api.ErrNone}, {one(2, api.Sprint{}), 0, 0, 1, 1, api.OK}, {one(2, seen(list([2]int{1, 0}))), 0, 0, 1, 1, api.OK},
		{one(6, api.Sprint{}), 0, 0, 1, 360, api.OK}, {one(3, seen(list([2]int{0, 1}))), 0, 0, 2, 2, api.OK}, {one(3, seen(list([2]int{0, 1}, [2]int{1, 2}))), 0, 0, 1, 1, api.OK},
		{one(4, seen(nil, placed(0, 0, 0), placed(1, 1, 1))), 0, 2, 3, 1, api.OK}, {one(4, seen(list([2]int{0, 3}, [2]int{1, 3}, [2]int{2, 3}))), 0, 0, 1, 3, api.OK},
		{one(3, seen(nil, placed(0, 1, 1))), 0, 0, 1, 1, api.OK},
	} {
		if a, b, most, e := sprint.Ask(x.s, x.sprint); a != x.a || b != x.b || most != x.most || e != x.e {
			t.Error(i, a, b, most, e)
		}
	}
}

package sprint_test

import (
	"math"
	"slices"
	"testing"

	"lapworks/api"
	"lapworks/sprint"
)

// odd returns numbers, many of which are out of every range.
func odd() []int { return list(math.MinInt, -1, 0, 1, 2, 5, 6, 7, 50, 51, 64, math.MaxInt) }

// refusedSprint tests that all functions of a sprint that need an order refuse it with an error, and return nothing else.
func refusedSprint(t *testing.T, s api.Sprints, i, pair int, want api.Errno) {
	t.Helper()
	if o, e := sprint.First(s, i); len(o) != 0 || e != want {
		t.Error("First", s, i, o, e)
	}
	if a, b, most, e := sprint.Ask(s, i); a != 0 || b != 0 || most != 0 || e != want {
		t.Error("Ask", s, i, a, b, most, e)
	}
	refusedPlace(t, s, i, pair, want)
}

// refusedPlace tests that places are refused with an error.
func refusedPlace(t *testing.T, s api.Sprints, i, pair int, want api.Errno) {
	t.Helper()
	if n, e := sprint.Place(s, i, pair); n != 0 || e != want {
		t.Error("Place", s, i, pair, n, e)
	}
}

// refusedAny tests that the functions of a sprint that need no order refuse it with an error.
func refusedAny(t *testing.T, s api.Sprints, i int, want api.Errno) {
	t.Helper()
	if n, e := sprint.Count(s, i); n != 0 || e != want {
		t.Error("Count", s, i, n, e)
	}
	if n, e := sprint.Clash(s, i); n != 0 || e != want {
		t.Error("Clash", s, i, n, e)
	}
}

// refusedAll tests that all functions of all sprints together refuse them with an error.
func refusedAll(t *testing.T, s api.Sprints, pair, other int, want api.Errno) {
	t.Helper()
	if p, e := sprint.Points(s, pair); p != (api.Span{}) || e != want {
		t.Error("Points", s, pair, p, e)
	}
	if pair != other {
		refusedMargin(t, s, pair, other, want)
	}
	if most, beaten, e := sprint.Sure(s); most != 0 || beaten != 0 || e != want {
		t.Error("Sure", s, most, beaten, e)
	}
}

// refusedMargin tests that the margin of two pairs is refused with an error.
func refusedMargin(t *testing.T, s api.Sprints, a, b int, want api.Errno) {
	t.Helper()
	if m, e := sprint.Margin(s, a, b); m != (api.Span{}) || e != want {
		t.Error("Margin", s, a, b, m, e)
	}
}

// with returns sprints with something more seen in the last one.
func with(s api.Sprints, ahead [][2]int, places ...api.SprintPlace) api.Sprints {
	return changed(s, func(s *api.Sprints) {
		last := &s.List[len(s.List)-1]
		last.Ahead, last.Places = append(last.Ahead, ahead...), append(last.Places, places...)
	})
}

// badThings returns sprints of which one saw what nobody can see.
func badThings(s api.Sprints) []api.Sprints {
	var all []api.Sprints
	for _, a := range [][2]int{
		{0, 0}, {1, 1}, {-1, 0}, {0, -1}, {s.Pairs, 0}, {0, s.Pairs}, {-1, -2}, {math.MinInt, 0}, {0, math.MaxInt}, {-1, -1}, {s.Pairs, s.Pairs},
	} {
		all = append(all, with(s, list(a)))
	}
	for _, p := range []api.SprintPlace{
		placed(-1, 0, 0), placed(s.Pairs, 0, 0), placed(math.MinInt, 0, 0), placed(math.MaxInt, 0, 0),
		placed(0, -1, 0), placed(0, 1, 0), placed(0, 0, s.Pairs), placed(0, s.Pairs, s.Pairs), placed(0, -2, -1), placed(0, s.Pairs, s.Pairs-1), placed(0, 0, -1),
		placed(0, math.MinInt, 0), placed(0, 0, math.MaxInt), placed(0, math.MinInt, math.MaxInt), placed(0, math.MaxInt, math.MinInt), placed(0, math.MaxInt, math.MaxInt), placed(0, math.MinInt, math.MinInt),
	} {
		all = append(all, with(s, nil, p))
	}
	return append(all,
		changed(s, func(s *api.Sprints) { s.List[0].Ahead = slices.Repeat(list([2]int{0, 1}), api.SprintAhead+1) }),
		changed(s, func(s *api.Sprints) {
			s.List[0].Places = slices.Repeat(list(placed(0, 0, s.Pairs-1)), api.SprintPlaces+1)
		}),
		changed(s, func(s *api.Sprints) { s.List[0].Ahead = make([][2]int, 1<<12) }),
		changed(s, func(s *api.Sprints) { s.List[0].Places = make([]api.SprintPlace, 1<<12) }))
}

// badPoints returns sprints with points that are not valid.
func badPoints(s api.Sprints) []api.Sprints {
	var all []api.Sprints
	for _, points := range [][]int{
		{-1}, {51}, {5, -1}, {51, 5}, {4, 5}, {5, 3, 4}, {0, 1}, {5, 4, 3, 2, 1, 0, 0}, {math.MaxInt}, {math.MinInt}, {50, math.MinInt}, make([]int, api.SprintPairs+1), make([]int, 1<<12),
	} {
		all = append(all, changed(s, func(s *api.Sprints) { s.Points = points }))
	}
	return all
}

// notValid returns sprints that are not valid.
func notValid() []api.Sprints {
	all := []api.Sprints{{}, {Points: list(1)}, {List: make([]api.Sprint, 1)}, {Pairs: 2, List: make([]api.Sprint, api.SprintList+1)}, {Pairs: 6, List: make([]api.Sprint, 1<<12)}}
	// A single pair is ahead of nobody.
	for _, a := range [][2]int{{0, 0}, {0, 1}, {1, 0}} {
		all = append(all, one(1, seen(list(a))))
	}
	for _, s := range []api.Sprints{exampleS(), exampleT(), one(2, cycle(2)), one(6, api.Sprint{})} {
		for _, pairs := range []int{0, -1, 7, 64, math.MinInt, math.MaxInt} {
			all = append(all, changed(s, func(s *api.Sprints) { s.Pairs = pairs }))
		}
		all = append(append(all, badThings(s)...), badPoints(s)...)
	}
	// What was seen of pairs that there are no more is not valid.
	return append(all, changed(exampleS(), func(s *api.Sprints) { s.Pairs = 3 }), changed(exampleS(), func(s *api.Sprints) { s.Pairs = 1 }))
}

// R1, R2: whatever else is asked for, sprints that are not valid come first.
func TestNotValid(t *testing.T) {
	for _, s := range notValid() {
		for _, n := range []int{0, 1, -1, 4, math.MaxInt, math.MinInt} {
			refusedSprint(t, s, n, 0, api.ErrArg)
			refusedSprint(t, s, 0, n, api.ErrArg)
			refusedAny(t, s, n, api.ErrArg)
			refusedAll(t, s, n, 0, api.ErrArg)
			refusedMargin(t, s, n, n, api.ErrArg)
		}
	}
}

// R1, R2: numbers out of their range come before a clash.
func TestOutOfRange(t *testing.T) {
	for _, s := range []api.Sprints{exampleS(), exampleT(), one(1, api.Sprint{}), one(2, cycle(2)), {Pairs: 3}, {Pairs: 6, Points: list(5), List: make([]api.Sprint, api.SprintList)}} {
		for _, i := range []int{-1, len(s.List), math.MinInt, math.MaxInt} {
			refusedSprint(t, s, i, 0, api.ErrRange)
			refusedAny(t, s, i, api.ErrRange)
		}
		for _, pair := range []int{-1, s.Pairs, math.MinInt, math.MaxInt} {
			for i := range s.List {
				refusedPlace(t, s, i, pair, api.ErrRange)
			}
			if p, e := sprint.Points(s, pair); p != (api.Span{}) || e != api.ErrRange {
				t.Error("Points", s, pair, p, e)
			}
			refusedMargin(t, s, pair, 0, api.ErrRange)
			refusedMargin(t, s, 0, pair, api.ErrRange)
			refusedMargin(t, s, pair, pair, api.ErrRange)
		}
		for pair := range s.Pairs {
			refusedMargin(t, s, pair, pair, api.ErrRange)
		}
	}
}

// R1: if one sprint has no order, nothing is told of all together, but of the others all is.
func TestNoTruth(t *testing.T) {
	clashes := []api.Sprint{cycle(2), cycle(3), seen(nil, placed(0, 0, 0), placed(1, 0, 0)), seen(list([2]int{0, 1}), placed(1, 0, 0)), seen(nil, placed(2, 0, 0), placed(2, 1, 2))}
	for _, clash := range clashes {
		for at := range api.SprintList {
			s := api.Sprints{Pairs: 3, Points: list(3, 2, 1), List: make([]api.Sprint, api.SprintList)}
			s.List[at] = clash
			refusedAll(t, s, 0, 1, api.ErrClash)
			refusedSprint(t, s, at, 0, api.ErrClash)
			for i := range s.List {
				count, want := 6, api.ErrNone
				if i == at {
					count, want = 0, api.OK
				} else if n, e := sprint.Place(s, i, 0); n != 7 || e != api.OK {
					t.Error("Place", s, i, n, e)
				}
				if n, e := sprint.Count(s, i); n != count || e != api.OK {
					t.Error("Count", s, i, n, e)
				}
				if n, e := sprint.Clash(s, i); (n == 0) != (i != at) || e != want {
					t.Error("Clash", s, i, n, e)
				}
			}
		}
	}
}

// R7: the limits themselves are valid.
func TestLimits(t *testing.T) {
	full := api.Sprint{Double: true, Ahead: slices.Repeat(list([2]int{0, 5}), api.SprintAhead), Places: slices.Repeat(list(placed(0, 0, 5)), api.SprintPlaces)}
	s := api.Sprints{Pairs: api.SprintPairs, Points: slices.Repeat(list(api.SprintPoints), api.SprintPairs), List: slices.Repeat(list(full), api.SprintList)}
	if n, e := sprint.Count(s, 3); n != 360 || e != api.OK {
		t.Error("Count", n, e)
	}
	if p, e := sprint.Points(s, 5); p != span(400, 400) || e != api.OK {
		t.Error("Points", p, e)
	}
	s.Points = list(50, 0, 0, 0, 0, 0)
	if m, e := sprint.Margin(s, 0, 5); m != span(0, 400) || e != api.OK {
		t.Error("Margin", m, e)
	}
	// The last of all things clashes with the first one.
	s.List[2].Places[5] = placed(5, 0, 0)
	if n, e := sprint.Clash(s, 2); n != 1|1<<13 || e != api.OK {
		t.Error("Clash", n, e)
	}
}

// P1 of the document: no argument leads to a panic.
func TestAnyArguments(t *testing.T) {
	for _, pairs := range odd() {
		for _, n := range odd() {
			for _, m := range odd() {
				s := api.Sprints{Pairs: pairs, Points: list(m, n), List: list(seen(list([2]int{n, m}), placed(n, m, pairs)), api.Sprint{})}
				for range 2 {
					sprint.Count(s, n)
					sprint.First(s, n)
					sprint.Place(s, n, m)
					sprint.Points(s, n)
					sprint.Margin(s, n, m)
					sprint.Sure(s)
					sprint.Clash(s, n)
					sprint.Ask(s, n)
					s.Points, s.List = nil, s.List[1:]
				}
			}
		}
	}
}

// R3: an empty list is the same as none.
func TestNilAndEmpty(t *testing.T) {
	none := api.Sprints{Pairs: 3, List: make([]api.Sprint, 2)}
	empty := api.Sprints{Pairs: 3, Points: []int{}, List: list(api.Sprint{Ahead: [][2]int{}, Places: []api.SprintPlace{}}, api.Sprint{})}
	if a, b := ask(t, none), ask(t, empty); !a.same(b) {
		t.Error(a, b)
	}
	for _, s := range []api.Sprints{{Pairs: 2, Points: list(3)}, {Pairs: 2, Points: list(3), List: []api.Sprint{}}} {
		if m, e := sprint.Margin(s, 0, 1); m != span(0, 0) || e != api.OK {
			t.Error("Margin", m, e)
		}
		if most, beaten, e := sprint.Sure(s); most != 3 || beaten != 0 || e != api.OK {
			t.Error("Sure", most, beaten, e)
		}
		refusedAny(t, s, 0, api.ErrRange)
	}
}

// askAll calls all functions, and looks at no result.
func askAll(s api.Sprints) {
	sprint.Sure(s)
	for pair := range s.Pairs {
		sprint.Points(s, pair)
		sprint.Margin(s, pair, 0)
	}
	for i := range s.List {
		sprint.Count(s, i)
		sprint.First(s, i)
		sprint.Place(s, i, 0)
		sprint.Clash(s, i)
		sprint.Ask(s, i)
	}
}

// P4.6, R4: arguments are as they were, also what is behind them in the same memory, and a result is the caller's own.
func TestMemory(t *testing.T) {
	for _, s := range []api.Sprints{exampleS(), exampleT(), one(6, cycle(6)), one(4, seen(nil, placed(0, 0, 1), placed(0, 0, 1), placed(1, 0, 1), placed(2, 0, 1)))} {
		for i, x := range s.List {
			s.List[i].Ahead = append(slices.Clone(x.Ahead), [2]int{9, 9})[:len(x.Ahead)]
			s.List[i].Places = append(slices.Clone(x.Places), placed(9, 9, 9))[:len(x.Places)]
		}
		was := copied(s)
		for range 2 {
			askAll(s)
		}
		if !equal(s, was) {
			t.Error(s, was)
		}
		for _, x := range s.List {
			if x.Ahead[:len(x.Ahead)+1][len(x.Ahead)] != [2]int{9, 9} || x.Places[:len(x.Places)+1][len(x.Places)] != placed(9, 9, 9) {
				t.Error("written behind a list", s)
			}
		}
	}
	s := exampleS()
	first := must(sprint.First(s, 0))(t)
	again := must(sprint.First(s, 0))(t)
	for i := range first {
		first[i] = 9
	}
	if !slices.Equal(again, list(0, 1, 2, 3)) || !slices.Equal(must(sprint.First(s, 0))(t), again) || !equal(s, exampleS()) {
		t.Error(first, again, s)
	}
}

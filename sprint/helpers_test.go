package sprint_test

import (
	"math/rand"
	"slices"
	"testing"

	"lapworks/api"
	"lapworks/sprint"
)

func span(lo, hi int) api.Span { return api.Span{Lo: lo, Hi: hi} }

// list returns what is written as a list.
func list[T any](all ...T) []T { return all }

func placed(pair, lo, hi int) api.SprintPlace {
	return api.SprintPlace{Pair: pair, Place: span(lo, hi)}
}

// seen returns a sprint in which pairs were seen ahead of others, and on places.
func seen(ahead [][2]int, places ...api.SprintPlace) api.Sprint {
	return api.Sprint{Ahead: ahead, Places: places}
}

// double returns a sprint that counts twice.
func double(s api.Sprint) api.Sprint {
	s.Double = true
	return s
}

// exampleS is the sprints of the chapter's examples, and exampleT the same with one thing more seen in the sprint 0.
func exampleS() api.Sprints {
	return api.Sprints{Pairs: 4, Points: list(5, 3, 2), List: list(
		seen(list([2]int{0, 1}, [2]int{2, 3}), placed(1, 1, 2)),
		double(seen(list([2]int{3, 0}), placed(0, 3, 3))),
	)}
}

func exampleT() api.Sprints {
	return changed(exampleS(), func(s *api.Sprints) { s.List[0].Ahead = append(s.List[0].Ahead, [2]int{1, 0}) })
}

// one returns a single sprint of so many pairs, with points for three places.
func one(pairs int, s api.Sprint) api.Sprints {
	return api.Sprints{Pairs: pairs, Points: list(5, 3, 1), List: list(s)}
}

// copied returns the same sprints in memory of their own.
func copied(s api.Sprints) api.Sprints {
	s.Points, s.List = slices.Clone(s.Points), slices.Clone(s.List)
	for i, one := range s.List {
		s.List[i].Ahead, s.List[i].Places = slices.Clone(one.Ahead), slices.Clone(one.Places)
	}
	return s
}

// changed returns sprints with something changed in them.
func changed(s api.Sprints, change func(s *api.Sprints)) api.Sprints {
	s = copied(s)
	change(&s)
	return s
}

// equal returns whether sprints are the same.
func equal(a, b api.Sprints) bool {
	return a.Pairs == b.Pairs && slices.Equal(a.Points, b.Points) && slices.EqualFunc(a.List, b.List, func(a, b api.Sprint) bool {
		return slices.Equal(a.Ahead, b.Ahead) && slices.Equal(a.Places, b.Places) && a.Double == b.Double
	})
}

// two returns two pairs that differ.
func two(r *rand.Rand, pairs int) [2]int {
	a := r.Intn(pairs)
	return [2]int{a, (a + 1 + r.Intn(pairs-1)) % pairs}
}

// randomSprints returns sprints in which nothing was seen.
func randomSprints(r *rand.Rand, pairs, sprints int) api.Sprints {
	s := api.Sprints{Pairs: pairs, List: make([]api.Sprint, sprints)}
	for range r.Intn(api.SprintPairs + 1) {
		// Often some places get as many points, or none.
		s.Points = append(s.Points, r.Intn(api.SprintPoints+1)/(1+9*r.Intn(2)))
	}
	slices.Sort(s.Points)
	slices.Reverse(s.Points)
	for i := range s.List {
		s.List[i].Double = r.Intn(3) == 0
	}
	return s
}

// see adds to a sprint something that is right if it ends in an order, if there is room for it.
func see(r *rand.Rand, s *api.Sprint, order []int, wide int) {
	pairs := len(order)
	if r.Intn(2) == 0 && pairs > 1 && len(s.Ahead) < api.SprintAhead {
		a := two(r, pairs)
		s.Ahead = append(s.Ahead, [2]int{order[min(a[0], a[1])], order[max(a[0], a[1])]})
		return
	}
	if len(s.Places) < api.SprintPlaces {
		place := r.Intn(pairs)
		s.Places = append(s.Places, placed(order[place], max(0, place-r.Intn(wide+1)), min(pairs-1, place+r.Intn(wide+1))))
	}
}

// observed returns sprints in which so many things were seen at most, with orders in which each of them can have ended by these.
func observed(r *rand.Rand, s api.Sprints, things, wide int) (api.Sprints, [][]int) {
	s = copied(s)
	var orders [][]int
	for i := range s.List {
		order := r.Perm(s.Pairs)
		for range r.Intn(things + 1) {
			see(r, &s.List[i], order, wide)
		}
		orders = append(orders, order)
	}
	return s, orders
}

// muddled returns sprints in which so many things were seen, each of which can be right, but all of them need not.
func muddled(r *rand.Rand, s api.Sprints, things, wide int) api.Sprints {
	s = copied(s)
	for i := range s.List {
		order := r.Perm(s.Pairs)
		for range things {
			if r.Intn(3) == 0 {
				order = r.Perm(s.Pairs)
			}
			see(r, &s.List[i], order, wide)
		}
	}
	return s
}

// must returns what takes a result that has no error.
func must[T any](result T, e api.Errno) func(t *testing.T) T {
	return func(t *testing.T) T {
		t.Helper()
		if e != api.OK {
			t.Fatal(e)
		}
		return result
	}
}

// told is all that is told of sprints with a truth: of each sprint, of each pair, of each other one.
type told struct {
	counts, places, asked []int
	points, margins       []api.Span
	most, beaten          int
}

// ask returns all that is told of sprints with a truth, but for the first orders and for whom to ask.
func ask(t *testing.T, s api.Sprints) told {
	t.Helper()
	var a told
	for i := range s.List {
		a.counts = append(a.counts, must(sprint.Count(s, i))(t))
		if s.Pairs > 1 {
			_, _, most, e := sprint.Ask(s, i)
			a.asked = append(a.asked, must(most, e)(t))
		}
		for pair := range s.Pairs {
			a.places = append(a.places, must(sprint.Place(s, i, pair))(t))
		}
	}
	for pair := range s.Pairs {
		a.points = append(a.points, must(sprint.Points(s, pair))(t))
		for other := range s.Pairs {
			if other != pair {
				a.margins = append(a.margins, must(sprint.Margin(s, pair, other))(t))
			}
		}
	}
	most, beaten, e := sprint.Sure(s)
	a.most, a.beaten = must(most, e)(t), beaten
	return a
}

// same returns whether the same is told.
func (a told) same(b told) bool {
	return slices.Equal(a.counts, b.counts) && slices.Equal(a.places, b.places) && slices.Equal(a.asked, b.asked) &&
		slices.Equal(a.points, b.points) && slices.Equal(a.margins, b.margins) && a.most == b.most && a.beaten == b.beaten
}

// inside returns whether nothing is told less exactly than by other sprints.
func (a told) inside(b told) bool {
	for i := range a.counts {
		if a.counts[i] > b.counts[i] {
			return false
		}
	}
	for i := range a.places {
		if a.places[i]&^b.places[i] != 0 {
			return false
		}
	}
	return slices.EqualFunc(a.points, b.points, within) && slices.EqualFunc(a.margins, b.margins, within) &&
		b.most&^a.most == 0 && b.beaten&^a.beaten == 0
}

// within returns whether all of one span is in another one.
func within(s, of api.Span) bool { return s.Lo >= of.Lo && s.Hi <= of.Hi }

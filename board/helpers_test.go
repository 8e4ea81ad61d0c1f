package board_test

import (
	"fmt"
	"math/rand"
	"slices"
	"testing"

	"lapworks/api"
	"lapworks/board"
)

func span(lo, hi int) api.Span { return api.Span{Lo: lo, Hi: hi} }

// list returns what is written as a list.
func list[T any](all ...T) []T { return all }

func placed(pair, lo, hi int) api.SprintPlace {
	return api.SprintPlace{Pair: pair, Place: span(lo, hi)}
}

// seen returns a sprint in which pairs were seen ahead of others, and on places.
func seen(ahead [][2]int, places ...api.SprintPlace) api.Sprint {
	return api.Sprint{Ahead: ahead, Places: places}
}

// double returns a sprint that counts twice.
func double(s api.Sprint) api.Sprint {
	s.Double = true
	return s
}

// sheets returns a board of so many pairs without sprints.
func sheets(pairs int, all ...[]int) api.Board {
	return api.Board{Count: api.Count{Pairs: pairs, Sheets: all}, Sprints: api.Sprints{Pairs: pairs}}
}

// with returns a board with such sprints.
func with(b api.Board, points []int, all ...api.Sprint) api.Board {
	return changed(b, func(b *api.Board) { b.Sprints.Points, b.Sprints.List = points, all })
}

// sample returns a board with the sprint of the chapter's examples.
func sample(all ...[]int) api.Board {
	return with(sheets(3, all...), list(3, 1), seen(list([2]int{0, 1})))
}

// exampleB, exampleL and exampleE are the boards of the chapter's examples.
func exampleB() api.Board { return sample(list(0, 1, 2), list(0, 2, 2)) }
func exampleL() api.Board { return sample(list(0, 1, 2)) }
func exampleE() api.Board { return sample(list(0, 0, 1)) }

// copied returns the same board in memory of its own.
func copied(b api.Board) api.Board {
	b.Count.Sheets = slices.Clone(b.Count.Sheets)
	for i, sheet := range b.Count.Sheets {
		b.Count.Sheets[i] = slices.Clone(sheet)
	}
	b.Sprints.Points, b.Sprints.List = slices.Clone(b.Sprints.Points), slices.Clone(b.Sprints.List)
	for i, s := range b.Sprints.List {
		b.Sprints.List[i].Ahead, b.Sprints.List[i].Places = slices.Clone(s.Ahead), slices.Clone(s.Places)
	}
	return b
}

// changed returns a board with something changed in it.
func changed(b api.Board, change func(b *api.Board)) api.Board {
	b = copied(b)
	change(&b)
	return b
}

// equal returns whether boards are the same.
func equal(a, b api.Board) bool {
	return a.Count.Pairs == b.Count.Pairs && slices.EqualFunc(a.Count.Sheets, b.Count.Sheets, slices.Equal[[]int]) &&
		a.Sprints.Pairs == b.Sprints.Pairs && slices.Equal(a.Sprints.Points, b.Sprints.Points) &&
		slices.EqualFunc(a.Sprints.List, b.Sprints.List, func(a, b api.Sprint) bool {
			return slices.Equal(a.Ahead, b.Ahead) && slices.Equal(a.Places, b.Places) && a.Double == b.Double
		})
}

// randomRace returns a race of at most so many passings. In some of them all pairs have as many laps.
func randomRace(r *rand.Rand, pairs, most int) []int {
	if pairs <= most && r.Intn(2) == 0 {
		return r.Perm(pairs)
	}
	race := make([]int, r.Intn(most+1))
	for i := range race {
		race[i] = r.Intn(pairs)
	}
	return race
}

// written returns a sheet of a race, with a miss and a changed jersey at most.
func written(r *rand.Rand, pairs int, race []int) []int {
	sheet := slices.Clone(race)
	if len(sheet) > 0 && r.Intn(4) == 0 {
		sheet[r.Intn(len(sheet))] = r.Intn(pairs)
	}
	if i := r.Intn(len(sheet) + 1); i < len(sheet) && r.Intn(4) == 0 {
		sheet = slices.Delete(sheet, i, i+1)
	}
	return sheet
}

// randomSheets returns so many sheets, mostly of one race, of at most so many passings.
func randomSheets(r *rand.Rand, pairs, number, most int) [][]int {
	var all [][]int
	race := randomRace(r, pairs, most)
	for range number {
		if r.Intn(6) == 0 {
			race = randomRace(r, pairs, most)
		}
		all = append(all, written(r, pairs, race))
	}
	return all
}

// randomPoints returns points of places. Often some places get as many, or none.
func randomPoints(r *rand.Rand) []int {
	points := make([]int, r.Intn(api.SprintPairs+1))
	for i := range points {
		points[i] = r.Intn(api.SprintPoints+1) / (1 + 9*r.Intn(2))
	}
	slices.Sort(points)
	slices.Reverse(points)
	return points
}

// see adds to a sprint something that is right if it ends in an order, if there is room for it.
func see(r *rand.Rand, s *api.Sprint, order []int) {
	if len(order) > 1 && r.Intn(2) == 0 && len(s.Ahead) < api.SprintAhead {
		first := r.Intn(len(order) - 1)
		second := first + 1 + r.Intn(len(order)-first-1)
		s.Ahead = append(s.Ahead, [2]int{order[first], order[second]})
		return
	}
	if len(s.Places) < api.SprintPlaces {
		place := r.Intn(len(order))
		s.Places = append(s.Places, placed(order[place], max(0, place-r.Intn(2)), min(len(order)-1, place+r.Intn(2))))
	}
}

// random returns a board of so many pairs, with so many sheets of at most so many passings, and so many sprints, with an order in which each of these can have ended.
func random(r *rand.Rand, pairs, number, most, sprints int) (api.Board, [][]int) {
	b := sheets(pairs, randomSheets(r, pairs, number, most)...)
	b.Sprints.Points = randomPoints(r)
	var orders [][]int
	for range sprints {
		s, order := api.Sprint{Double: r.Intn(3) == 0}, r.Perm(pairs)
		for range r.Intn(6) {
			see(r, &s, order)
		}
		b.Sprints.List, orders = append(b.Sprints.List, s), append(orders, order)
	}
	return b, orders
}

// large returns a board that can have as much of all as there can be, with an order in which each of its sprints can have ended.
func large(r *rand.Rand) (api.Board, [][]int) {
	return random(r, 2+r.Intn(api.CountPairs-1), 1+r.Intn(api.CountSheets), 3+r.Intn(api.CountPassings-2), r.Intn(api.SprintList+1))
}

// must returns what takes a result that has no error.
func must[T any](result T, e api.Errno) func(t *testing.T) T {
	return func(t *testing.T) T {
		t.Helper()
		if e != api.OK {
			t.Fatal(e)
		}
		return result
	}
}

// outcome is a result with its error.
type outcome[T any] struct {
	result T
	e      api.Errno
}

// resultOf returns a result and its error as one thing.
func resultOf[T any](result T, e api.Errno) outcome[T] { return outcome[T]{result, e} }

// bothOf returns two results and their error as one thing.
func bothOf[T any](one, two T, e api.Errno) outcome[[2]T] { return outcome[[2]T]{[2]T{one, two}, e} }

// writtenOf returns a list, written out, and its error as one thing.
func writtenOf(list []int, e api.Errno) outcome[string] { return resultOf(fmt.Sprint(list), e) }

// ordersOf returns how many orders there are, and the first one, written out, and their error as one thing.
func ordersOf(many int, first []int, e api.Errno) outcome[string] {
	return resultOf(fmt.Sprint(many, first), e)
}

// ofTwo is something that is told of each two pairs, by their numbers.
type ofTwo[T any] [api.CountPairs][api.CountPairs]outcome[T]

// told is all that is told of a board.
type told struct {
	ahead, need   ofTwo[int]
	gap           ofTwo[[2]api.Span]
	settle        ofTwo[[2]int]
	rank          [api.CountPairs]outcome[api.Span]
	leads         outcome[[2]int]
	order, orders outcome[string]
}

// ask returns all that is told of a board.
func ask(b api.Board) told {
	a := told{leads: bothOf(board.Leads(b)), order: writtenOf(board.Order(b)), orders: ordersOf(board.Orders(b))}
	for pair := range min(b.Count.Pairs, api.CountPairs) {
		a.rank[pair] = resultOf(board.Rank(b, pair))
		for other := range min(b.Count.Pairs, api.CountPairs) {
			a.ahead[pair][other], a.need[pair][other] = resultOf(board.Ahead(b, pair, other)), resultOf(board.Need(b, pair, other))
			a.gap[pair][other], a.settle[pair][other] = bothOf(board.Gap(b, pair, other)), bothOf(board.Settle(b, pair, other))
		}
	}
	return a
}

// surely returns whether a pair is told to be surely ahead of another one.
func (a told) surely(pair, other int) bool { return a.ahead[pair][other].result == api.BoardAlways }

// inside returns whether all of one span is in another one.
func inside(s, of api.Span) bool { return s.Lo >= of.Lo && s.Hi <= of.Hi }

package board_test

import (
	"math/rand"
	"slices"
	"testing"

	"lapworks/api"
	"lapworks/board"
	"lapworks/count"
	"lapworks/sprint"
)

// P8.9, P2 of the document: what is true is within what is told, on boards with as much of all as there can be.
func TestTruthIsWithin(t *testing.T) {
	r := rand.New(rand.NewSource(311))
	found := 0
	for range 150 {
		b, orders := large(r)
		race, e := count.First(b.Count)
		if e != api.OK {
			continue
		}
		found++
		x := truth{laps: lapsOf(race)}
		for i, order := range orders {
			for pair, n := range pointsOf(b.Sprints, b.Sprints.List[i], order) {
				x.points[pair] += n
			}
		}
		a := ask(b)
		within(t, b, a, x)
		if a.order.e == api.OK {
			order := must(board.Order(b))(t)
			if !slices.IsSortedFunc(order, func(a, b int) int { return -x.stands(a, b) }) {
				t.Errorf("%+v: %v %+v", b, order, x)
			}
		}
	}
	if found < 90 {
		t.Error("too few boards with a truth for a test", found)
	}
}

// P8.2: laps are those of layer 1, and points those of layer 4.
func TestLowerLayers(t *testing.T) {
	r := rand.New(rand.NewSource(312))
	for range 80 {
		b, _ := large(r)
		a := ask(b)
		for pair := range b.Count.Pairs {
			for other := range b.Count.Pairs {
				laps, e := count.Lead(b.Count, pair, other)
				if points, d := sprint.Margin(b.Sprints, pair, other); e == api.OK && d == api.OK && a.gap[pair][other].result != [2]api.Span{laps, points} {
					t.Errorf("%+v: %v %v %v", b, pair, other, a.gap[pair][other])
				}
			}
		}
	}
}

// P8.9: who is surely ahead of one who is surely ahead of a third one is surely ahead of this one, too.
func TestCarriedOn(t *testing.T) {
	r := rand.New(rand.NewSource(313))
	found := 0
	for range 200 {
		b, _ := large(r)
		a, pairs := ask(b), b.Count.Pairs
		for one := range pairs {
			for other := range pairs {
				for third := range pairs {
					if a.surely(one, other) && a.surely(other, third) {
						found++
						if !a.surely(one, third) {
							t.Errorf("%+v: %v %v %v", b, one, other, third)
						}
					}
				}
			}
		}
	}
	if found < 60 {
		t.Error("too few are surely ahead for a test", found)
	}
}

// turned returns a span from the other side.
func turned(s api.Span) api.Span { return span(-s.Hi, -s.Lo) }

// P8.1, P8.2, P8.6: of two pairs the same is told from either side.
func TestEitherSide(t *testing.T) {
	r := rand.New(rand.NewSource(314))
	for range 100 {
		b, _ := large(r)
		a := ask(b)
		if a.leads.e != api.OK {
			continue
		}
		for pair := range b.Count.Pairs {
			for other := range pair {
				g, h := a.gap[pair][other].result, a.gap[other][pair].result
				if turned(g[0]) != h[0] || turned(g[1]) != h[1] || a.settle[pair][other] != a.settle[other][pair] {
					t.Errorf("%+v: %v %v %+v", b, pair, other, a)
				}
				n, m := a.ahead[pair][other].result, a.ahead[other][pair].result
				if n == api.BoardAlways && m != api.BoardNever || m == api.BoardAlways && n != api.BoardNever {
					t.Errorf("%+v: %v %v %v %v", b, pair, other, n, m)
				}
				// No points are needed just by one who is surely ahead.
				if (a.need[pair][other] == outcome[int]{}) != a.surely(pair, other) || (a.need[other][pair] == outcome[int]{}) != a.surely(other, pair) {
					t.Errorf("%+v: %v %v %v %v", b, pair, other, a.need[pair][other], a.need[other][pair])
				}
			}
		}
	}
}

// P8.3, P8.4, P8.5: who can lead is who can have the rank 0, and there is somebody; who surely leads can; there is just one order if it is sure, and only then, and its first one leads.
func TestTogether(t *testing.T) {
	r := rand.New(rand.NewSource(315))
	sure := 0
	for range 150 {
		b, _ := large(r)
		a := ask(b)
		if a.leads.e != api.OK {
			continue
		}
		leads := a.leads.result
		if leads[1] == 0 || leads[0]&^leads[1] != 0 {
			t.Errorf("%+v: %v", b, leads)
		}
		for pair := range b.Count.Pairs {
			s := a.rank[pair].result
			if (s.Lo == 0) != (leads[1]>>pair&1 == 1) || s.Hi == 0 && leads[0]>>pair&1 == 0 || s.Lo > s.Hi || s.Hi >= b.Count.Pairs {
				t.Errorf("%+v: %v %v %v", b, pair, s, leads)
			}
		}
		many, first, _ := board.Orders(b)
		order, e := board.Order(b)
		if (many == 1) != (e == api.OK) || e == api.OK && (!slices.Equal(order, first) || leads != [2]int{1 << order[0], 1 << order[0]}) {
			t.Errorf("%+v: %v %v %v %v %v", b, many, first, order, e, leads)
		}
		if e == api.OK {
			sure++
			for place, pair := range order {
				if a.rank[pair].result != span(place, place) {
					t.Errorf("%+v: %v %v", b, order, a.rank)
				}
			}
		}
	}
	if sure < 30 {
		t.Error("too few orders are sure for a test", sure)
	}
}

// noLess tests that nothing is told less exactly than it was.
func noLess(t *testing.T, b api.Board, now, was told) {
	t.Helper()
	for pair := range b.Count.Pairs {
		if !inside(now.rank[pair].result, was.rank[pair].result) {
			t.Errorf("%+v: %v %v %v", b, pair, now.rank[pair], was.rank[pair])
		}
		for other := range b.Count.Pairs {
			if was.surely(pair, other) && !now.surely(pair, other) || was.ahead[pair][other] == (outcome[int]{}) && now.ahead[pair][other].result != api.BoardNever {
				t.Errorf("%+v: %v %v %v %v", b, pair, other, now.ahead[pair][other], was.ahead[pair][other])
			}
			for i, s := range now.gap[pair][other].result {
				if !inside(s, was.gap[pair][other].result[i]) {
					t.Errorf("%+v: %v %v %v", b, pair, other, s)
				}
			}
		}
	}
	if n, w := now.leads.result, was.leads.result; w[0]&^n[0] != 0 || n[1]&^w[1] != 0 {
		t.Errorf("%+v: %v %v", b, n, w)
	}
}

// P8.9, P2 of the document: with one sheet more than two or more nobody who was surely ahead is not, unless there is no truth then.
func TestMoreSheets(t *testing.T) {
	r := rand.New(rand.NewSource(316))
	sharper, none := 0, 0
	for i := range 200 {
		pairs := 2 + i%3
		b, _ := random(r, pairs, 2+r.Intn(2), 2+r.Intn(4), r.Intn(3))
		sheet := written(r, pairs, b.Count.Sheets[r.Intn(len(b.Count.Sheets))])
		if i%5 == 0 {
			sheet = append(sheet, sheet...)
			sheet = sheet[:min(len(sheet), api.CountPassings)]
		}
		more := changed(b, func(b *api.Board) { b.Count.Sheets = append(b.Count.Sheets, sheet) })
		was, now := ask(b), ask(more)
		if was.leads.e != api.OK {
			if now.leads.e != api.ErrClash {
				t.Errorf("%+v: %v", more, now.leads)
			}
			continue
		}
		if now.leads.e == api.ErrClash {
			none++
			continue
		}
		noLess(t, more, now, was)
		if now.ahead != was.ahead {
			sharper++
		}
	}
	if sharper < 20 || none < 5 {
		t.Error("too few of a kind for a test", sharper, none)
	}
}

// P8.9, P2 of the document: with one thing more seen nobody who was surely ahead is not, unless there is no truth then.
func TestMoreSeen(t *testing.T) {
	r := rand.New(rand.NewSource(317))
	sharper, none := 0, 0
	for i := range 300 {
		b, orders := random(r, 2+i%3, 1, 4, 1+r.Intn(2))
		which := r.Intn(len(orders))
		order := orders[which]
		if i%5 == 0 {
			order = r.Perm(b.Count.Pairs)
		}
		more := changed(b, func(b *api.Board) { see(r, &b.Sprints.List[which], order) })
		was, now := ask(b), ask(more)
		if now.leads.e == api.ErrClash {
			none++
			continue
		}
		noLess(t, more, now, was)
		if now.ahead != was.ahead {
			sharper++
		}
	}
	if sharper < 20 || none < 5 {
		t.Error("too few of a kind for a test", sharper, none)
	}
}

// renumbered returns a board whose pairs have other numbers.
func renumbered(b api.Board, number []int) api.Board {
	return changed(b, func(b *api.Board) {
		for _, sheet := range b.Count.Sheets {
			for i, pair := range sheet {
				sheet[i] = number[pair]
			}
		}
		for _, s := range b.Sprints.List {
			for i, a := range s.Ahead {
				s.Ahead[i] = [2]int{number[a[0]], number[a[1]]}
			}
			for i, p := range s.Places {
				s.Places[i].Pair = number[p.Pair]
			}
		}
	})
}

// numberedSet returns a set of pairs by their other numbers.
func numberedSet(set int, number []int) int {
	other := 0
	for pair, n := range number {
		other |= set >> pair & 1 << n
	}
	return other
}

// P8.9, P11 of the document: if pairs are numbered otherwise only their numbers change.
func TestOtherNumbers(t *testing.T) {
	r := rand.New(rand.NewSource(318))
	for range 80 {
		b, _ := large(r)
		number := r.Perm(b.Count.Pairs)
		c := renumbered(b, number)
		was, now := ask(b), ask(c)
		if now.leads.e != was.leads.e || now.leads.result != [2]int{numberedSet(was.leads.result[0], number), numberedSet(was.leads.result[1], number)} {
			t.Errorf("%+v %v: %v %v", b, number, was.leads, now.leads)
		}
		for pair, n := range number {
			if now.rank[n] != was.rank[pair] {
				t.Errorf("%+v %v: %v %v", b, number, was.rank, now.rank)
			}
			for other, m := range number {
				if now.ahead[n][m] != was.ahead[pair][other] || now.gap[n][m] != was.gap[pair][other] || now.settle[n][m] != was.settle[pair][other] || now.need[n][m] != was.need[pair][other] {
					t.Errorf("%+v %v: %v %v", b, number, pair, other)
				}
			}
		}
		sameOrders(t, b, c, number)
	}
}

// sameOrders tests that pairs that are numbered otherwise are in the same order if it is sure, and in as many.
func sameOrders(t *testing.T, b, c api.Board, number []int) {
	t.Helper()
	was, e := board.Order(b)
	for i, pair := range was {
		was[i] = number[pair]
	}
	if now, d := board.Order(c); !slices.Equal(now, was) || d != e {
		t.Errorf("%+v %v: %v %v %v %v", b, number, was, e, now, d)
	}
	many, _, e := board.Orders(b)
	if n, _, d := board.Orders(c); n != many || d != e {
		t.Errorf("%+v %v: %v %v %v %v", b, number, many, e, n, d)
	}
}

// P11 of the document: which of the first two sheets comes first, and in which order sprints come, and what was seen in them, makes no difference but to the numbers of sprints.
func TestOtherOrder(t *testing.T) {
	r := rand.New(rand.NewSource(319))
	for range 80 {
		b, _ := random(r, 2+r.Intn(3), 2+r.Intn(3), 4, r.Intn(api.SprintList+1))
		number := r.Perm(len(b.Sprints.List))
		c := changed(b, func(c *api.Board) {
			c.Count.Sheets[0], c.Count.Sheets[1] = c.Count.Sheets[1], c.Count.Sheets[0]
			for i, s := range copied(b).Sprints.List {
				r.Shuffle(len(s.Ahead), func(i, j int) { s.Ahead[i], s.Ahead[j] = s.Ahead[j], s.Ahead[i] })
				r.Shuffle(len(s.Places), func(i, j int) { s.Places[i], s.Places[j] = s.Places[j], s.Places[i] })
				c.Sprints.List[number[i]] = s
			}
		})
		was, now := ask(b), ask(c)
		for pair := range b.Count.Pairs {
			for other := range b.Count.Pairs {
				one, two := was.settle[pair][other], now.settle[pair][other]
				if one.result[0] == api.BoardSprint && two.result[0] == api.BoardSprint {
					// Another one can be the first one of several that are as wide.
					if wide(t, b, one.result[1], pair, other) != wide(t, c, two.result[1], pair, other) {
						t.Errorf("%+v %v: %v %v %v %v", b, number, pair, other, one, two)
					}
					now.settle[pair][other] = one
				}
			}
		}
		if now != was {
			t.Errorf("%+v %v: %+v %+v", b, number, was, now)
		}
	}
}

// wide returns how wide the margin of two pairs is in a sprint alone.
func wide(t *testing.T, b api.Board, i, pair, other int) int {
	t.Helper()
	b.Sprints.List = list(b.Sprints.List[i])
	s := must(sprint.Margin(b.Sprints, pair, other))(t)
	return s.Hi - s.Lo
}

// P8.6: the passing of layer 1 that settles who has more laps settles it: if the sheet of a truth is added nothing of laps is open.
func TestSettledByPassing(t *testing.T) {
	r := rand.New(rand.NewSource(320))
	found := 0
	for range 140 {
		b, _ := random(r, 2+r.Intn(3), 2, 5, 1)
		for pair := range b.Count.Pairs {
			for other := range pair {
				kind, number, e := board.Settle(b, pair, other)
				if kind != api.BoardPassing {
					continue
				}
				found++
				if n, d := count.Settle(b.Count, pair, other); n != number || e != api.OK || d != api.OK {
					t.Errorf("%+v: %v %v %v %v", b, number, e, n, d)
				}
				race := must(count.First(b.Count))(t)
				known := changed(b, func(b *api.Board) { b.Count.Sheets = append(b.Count.Sheets, race) })
				if g := ask(known).gap[pair][other].result[0]; g.Lo != g.Hi {
					t.Errorf("%+v: %v", known, g)
				}
			}
		}
	}
	if found < 30 {
		t.Error("too few passings settle anything for a test", found)
	}
}

// P11 of the document: the same board is told the same, however often it is asked.
func TestAskedAgain(t *testing.T) {
	r := rand.New(rand.NewSource(321))
	for range 12 {
		b, _ := large(r)
		a := ask(b)
		for range 3 {
			if again := ask(copied(b)); again != a {
				t.Errorf("%+v: %+v %+v", b, a, again)
			}
		}
	}
}

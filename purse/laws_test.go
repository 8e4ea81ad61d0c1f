package purse_test

import (
	"math/rand"
	"slices"
	"testing"

	"lapworks/api"
	"lapworks/purse"
)

// final is a final order, and what is due to each pair by it.
type final struct{ order, coins []int }

// exactly returns all final orders of a purse.
func exactly(p api.Purse) []final {
	var all []final
	for _, order := range perms(p.Board.Count.Pairs) {
		if coins, e := purse.Exact(p, order); e == api.OK {
			all = append(all, final{order, coins})
		}
	}
	return all
}

// areEnds returns whether a span is the one from the least to the greatest number of something, of all final orders.
func areEnds(s api.Span, all []final, number func(f final) int) bool {
	var numbers []int
	for _, f := range all {
		numbers = append(numbers, number(f))
	}
	return s == span(slices.Min(numbers), slices.Max(numbers))
}

// ofSet returns how many coins of some are due to the pairs of a set.
func ofSet(coins []int, pairs int) int {
	all := 0
	for pair, n := range coins {
		if has(pairs, pair) {
			all += n
		}
	}
	return all
}

// P13.7, P9 of the document: by each final order all coins together are the prizes of as many places as there are pairs, and what is split by hours, if anybody led; and so is what is paid at once with what is held back, of which no pair gets more than is due to it.
func TestToTheLastCoin(t *testing.T) {
	r := rand.New(rand.NewSource(1311))
	held := 0
	for range 150 {
		p := randomDrawn(r)
		pairs := p.Board.Count.Pairs
		all := total(p.Prizes[:min(pairs, len(p.Prizes))])
		if total(p.Hours) > 0 {
			all += p.Led
		}
		paid, back, e := purse.Advance(p)
		if e != api.OK || total(paid)+back != all || back < 0 {
			t.Errorf("%+v: %v %v %v, not %v", p, paid, back, e, all)
		}
		for _, f := range exactly(p) {
			if total(f.coins) != all {
				t.Errorf("%+v: %v, not %v", p, f, all)
			}
			for pair, n := range paid {
				if n > f.coins[pair] {
					t.Errorf("%+v: %v %v", p, f, paid)
				}
			}
		}
		if back > 0 {
			held++
		}
	}
	if held < 60 {
		t.Error("too little is held back for a test", held)
	}
}

// P13.1, P13.7: all coins are split if anybody led; who leads less hours, or as many, gets no more, but for one coin of those with a lesser number who led as many; and nobody gets a coin more than their part, or less.
func TestSplitsAll(t *testing.T) {
	r := rand.New(rand.NewSource(1312))
	for range 3000 {
		coins, hours := r.Intn(list(20, api.PurseCoins+1)[r.Intn(2)]), randomHours(r, r.Intn(api.PurseShares+1))
		got, e := purse.Split(coins, hours)
		all := total(hours)
		if e != api.OK || len(got) != len(hours) || all > 0 && total(got) != coins || all == 0 && total(got) != 0 {
			t.Fatal(coins, hours, got, e)
		}
		for i, own := range hours {
			if all > 0 && (got[i] < coins*own/all || got[i] > (coins*own+all-1)/all) {
				t.Error(coins, hours, got, i)
			}
			for j, other := range hours {
				if own < other && got[i] > got[j] || own == other && (got[i] < got[j] && i < j || got[i] > got[j]+1) {
					t.Error(coins, hours, got, i, j)
				}
			}
		}
	}
}

// P13.8: places, what is due to each pair, and to some together, are within what is told by each final order, and both ends of each span are those of one.
func TestWithin(t *testing.T) {
	r := rand.New(rand.NewSource(1313))
	found := 0
	for range 100 {
		p := randomDrawn(r)
		x, all := tell(p), exactly(p)
		for pair := range p.Hours {
			if s := x.places[pair].result; !areEnds(s, all, func(f final) int { return slices.Index(f.order, pair) }) {
				t.Errorf("%+v %v: %v", p, pair, s)
			}
			if x.due[pair] != x.group[1<<pair] {
				t.Errorf("%+v %v: %v %v", p, pair, x.due[pair], x.group[1<<pair])
			}
		}
		for set := range 1 << len(p.Hours) {
			s := x.group[set].result
			if !areEnds(s, all, func(f final) int { return ofSet(f.coins, set) }) {
				t.Errorf("%+v %v: %v", p, set, s)
			}
			if s.Lo < s.Hi {
				found++
			}
		}
	}
	if found < 300 {
		t.Error("too little is in doubt for a test", found)
	}
}

// P13.3, P13.8: what is due to a set and to all others together is all.
func TestAllOthers(t *testing.T) {
	r := rand.New(rand.NewSource(1314))
	for range 150 {
		p := randomDrawn(r)
		x, every := tell(p), 1<<len(p.Hours)-1
		all := x.group[every].result
		if all.Lo != all.Hi || x.group[0] != so(span(0, 0)) {
			t.Errorf("%+v: %v %v", p, all, x.group[0])
		}
		for set := range every + 1 {
			one, two := x.group[set].result, x.group[every&^set].result
			if one.Hi != all.Lo-two.Lo || one.Lo != all.Lo-two.Hi {
				t.Errorf("%+v %v: %v %v %v", p, set, one, two, all)
			}
		}
	}
}

// P13.8, P2 of the document: by laps and points that are true the order is a final one, and what is due by it is within what is told.
func TestWhatIsTrue(t *testing.T) {
	r := rand.New(rand.NewSource(1315))
	found := 0
	for range 150 {
		p, race, orders := randomRaced(r)
		if len(p.Board.Count.Sheets) > 1 {
			// Of two sheets that differ neither has to be right.
			p.Board.Count.Sheets = p.Board.Count.Sheets[:1]
		}
		order := standings(p, race, orders)
		coins, e := purse.Exact(p, order)
		if e != api.OK {
			t.Errorf("%+v %v: %v", p, order, e)
			continue
		}
		x := tell(p)
		for place, pair := range order {
			s, d := x.places[pair].result, x.due[pair].result
			if place < s.Lo || place > s.Hi || coins[pair] < d.Lo || coins[pair] > d.Hi {
				t.Errorf("%+v %v: %v %v %v", p, order, pair, s, d)
			}
			if d.Lo < d.Hi {
				found++
			}
		}
	}
	if found < 100 {
		t.Error("too little is in doubt for a test", found)
	}
}

// standings returns all pairs by the laps of a race, and then by the points of sprints with such orders.
func standings(p api.Purse, race []int, orders [][]int) []int {
	var laps, points [api.CountPairs]int
	for _, pair := range race {
		laps[pair]++
	}
	for i, order := range orders {
		for place, pair := range order {
			if place < len(p.Board.Sprints.Points) {
				n := p.Board.Sprints.Points[place]
				if p.Board.Sprints.List[i].Double {
					n *= 2
				}
				points[pair] += n
			}
		}
	}
	order := perms(p.Board.Count.Pairs)[0]
	slices.SortStableFunc(order, func(a, b int) int {
		if laps[a] != laps[b] {
			return laps[b] - laps[a]
		}
		return points[b] - points[a]
	})
	return order
}

// within tests that nothing is told less exactly of a purse of which more is known.
func within(t *testing.T, p, more api.Purse) {
	t.Helper()
	x, y := tell(p), tell(more)
	if y.advance.e == api.ErrClash {
		return
	}
	inside := func(one, other outcome[api.Span]) bool {
		return other.e == one.e && other.result.Lo >= one.result.Lo && other.result.Hi <= one.result.Hi
	}
	for pair := range x.places {
		if !inside(x.places[pair], y.places[pair]) || !inside(x.due[pair], y.due[pair]) || x.ask[pair].e == api.ErrRefuse && y.ask[pair].e != api.ErrRefuse {
			t.Errorf("%+v\n%+v\n%v: %+v\n%+v", p, more, pair, x, y)
		}
	}
	for set := range x.group {
		if !inside(x.group[set], y.group[set]) {
			t.Errorf("%+v\n%+v\n%v: %v %v", p, more, set, x.group[set], y.group[set])
		}
	}
	paid, held, _ := purse.Advance(p)
	others, back, _ := purse.Advance(more)
	for pair, n := range others {
		if n < paid[pair] || back > held {
			t.Errorf("%+v\n%+v\n%v %v %v %v", p, more, paid, held, others, back)
		}
	}
}

// P13.8, P2 of the document: with one thing more that is known of the board, of a sprint or of the laps, nothing is told less exactly.
func TestMoreIsKnown(t *testing.T) {
	r := rand.New(rand.NewSource(1316))
	for range 60 {
		p := randomDrawn(r)
		if pairs := len(p.Hours); pairs > 1 {
			two := r.Perm(pairs)[:2]
			within(t, p, seen(p, two[0], two[1]))
		}
	}
	for range 16 {
		p, race, _ := randomRaced(r)
		// One sheet alone tells all there is to tell of laps, so that only a third one has to tell more.
		if len(p.Board.Count.Sheets) > 1 {
			within(t, p, changed(p, func(p *api.Purse) { p.Board.Count.Sheets = append(p.Board.Count.Sheets, race) }))
		}
	}
}

// P13.6: if it becomes known who of the pair and the other one is ahead, both ends of what is due to it differ by at most as much as is told, in one of both ways by just as much, and no other question does better.
func TestAsking(t *testing.T) {
	r := rand.New(rand.NewSource(1317))
	found := 0
	for range 100 {
		p := randomDrawn(r)
		for pair := range p.Hours {
			wide := func(p api.Purse) int {
				s, e := purse.Due(p, pair)
				if e != api.OK {
					t.Errorf("%+v %v: %v", p, pair, e)
				}
				return s.Hi - s.Lo
			}
			best, most, e := purse.Ask(p, pair)
			if (e == api.ErrRefuse) != (wide(p) == 0) {
				t.Errorf("%+v %v: %v %v", p, pair, e, wide(p))
			}
			if e != api.OK {
				continue
			}
			found++
			ahead := lines(p.Board)
			for other := range p.Hours {
				if other == pair || slices.Contains(ahead, [2]int{pair, other}) || slices.Contains(ahead, [2]int{other, pair}) {
					if other == best {
						t.Errorf("%+v %v: %v is no question", p, pair, best)
					}
					continue
				}
				n := max(wide(seen(p, pair, other)), wide(seen(p, other, pair)))
				if n < most || n == most && other < best || other == best && n != most {
					t.Errorf("%+v %v: %v %v, but %v %v", p, pair, best, most, other, n)
				}
			}
		}
	}
	if found < 100 {
		t.Error("too little is asked for a test", found)
	}
}

// numbered returns a purse whose pairs are numbered otherwise.
func numbered(p api.Purse, number []int) api.Purse {
	return changed(p, func(other *api.Purse) {
		for old, now := range number {
			other.Hours[now] = p.Hours[old]
		}
		for _, sheet := range other.Board.Count.Sheets {
			for i := range sheet {
				sheet[i] = number[sheet[i]]
			}
		}
		for _, s := range other.Board.Sprints.List {
			for i, two := range s.Ahead {
				s.Ahead[i] = [2]int{number[two[0]], number[two[1]]}
			}
		}
	})
}

// leftAlike returns whether two shares are left by the same rest.
func leftAlike(p api.Purse) bool {
	all := total(p.Hours)
	for i, own := range p.Hours {
		for _, other := range p.Hours[:i] {
			if all > 0 && p.Led*own%all == p.Led*other%all {
				return true
			}
		}
	}
	return false
}

// P13.8, P11 of the document: if pairs are numbered otherwise, and no two shares are left by the same rest, only their numbers change, also of whom to ask, if it is not one of several.
func TestOtherNumbers(t *testing.T) {
	r := rand.New(rand.NewSource(1318))
	found := 0
	for range 60 {
		p, _, _ := randomRaced(r)
		if leftAlike(p) {
			continue
		}
		found++
		number := r.Perm(len(p.Hours))
		other := numbered(p, number)
		x, y := tell(p), tell(other)
		moved := func(pairs int) int {
			all := 0
			for old, now := range number {
				all |= pairs >> old & 1 << now
			}
			return all
		}
		for pair, now := range number {
			if x.places[pair] != y.places[now] || x.due[pair] != y.due[now] || x.ask[pair].e != y.ask[now].e || x.ask[pair].result[1] != y.ask[now].result[1] {
				t.Errorf("%+v %v %v:\n%+v\n%+v", p, number, pair, x, y)
			}
		}
		for set := range 1 << len(number) {
			if x.group[set] != y.group[moved(set)] {
				t.Errorf("%+v %v %v: %v %v", p, number, set, x.group[set], y.group[moved(set)])
			}
		}
		paid, held, e := purse.Advance(p)
		others, back, f := purse.Advance(other)
		if held != back || e != f {
			t.Errorf("%+v %v: %v %v %v %v", p, number, held, back, e, f)
		}
		for pair, n := range paid {
			if others[number[pair]] != n {
				t.Errorf("%+v %v: %v %v", p, number, paid, others)
			}
		}
	}
	if found < 15 {
		t.Error("too few for a test", found)
	}
}

// P11 of the document: the same purse is told the same, however often it is asked.
func TestAskedAgain(t *testing.T) {
	r := rand.New(rand.NewSource(1319))
	for range 6 {
		p, _, _ := randomRaced(r)
		x := tell(p)
		for range 2 {
			if y := tell(p); x != y {
				t.Errorf("%+v: %+v %+v", p, x, y)
			}
		}
	}
}

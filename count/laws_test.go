package count_test

import (
	"cmp"
	"math/rand"
	"slices"
	"testing"

	"lapworks/api"
	"lapworks/count"
)

// facts is all that is told of a count, but for what depends on the order of the passings.
type facts struct {
	fewest, many int
	laps         [api.CountPairs]int
	leads        [api.CountPairs][api.CountPairs]api.Span
	errors       [api.CountSheets]api.Span
}

// ask returns the facts of a count that has a truth.
func ask(t *testing.T, c api.Count) facts {
	t.Helper()
	var f facts
	var e [4]api.Errno
	f.fewest, e[0] = count.Fewest(c)
	f.many, e[1] = count.Count(c)
	for sheet := range c.Sheets {
		f.errors[sheet], e[2] = count.Errors(c, sheet)
	}
	for pair := range c.Pairs {
		f.laps[pair], e[3] = count.Laps(c, pair)
		for other := range c.Pairs {
			if pair != other {
				f.leads[pair][other], _ = count.Lead(c, pair, other)
			}
		}
	}
	if e != [4]api.Errno{} {
		t.Fatal(c, e)
	}
	return f
}

// hasTruth returns whether a count has a truth.
func hasTruth(c api.Count) bool {
	n, _ := count.Count(c)
	return n > 0
}

// within returns whether all of one span is in another one.
func within(s, of api.Span) bool { return s.Lo >= of.Lo && s.Hi <= of.Hi }

// P1.7, P11: it makes no difference which of the first two sheets comes first.
func TestEitherSheetFirst(t *testing.T) {
	for _, c := range smallCounts() {
		if len(c.Sheets) < 2 {
			continue
		}
		turned := counted(c.Pairs, slices.Clone(c.Sheets)...)
		turned.Sheets[0], turned.Sheets[1] = c.Sheets[1], c.Sheets[0]
		if !hasTruth(c) {
			clashes(t, turned)
			continue
		}
		f, g := ask(t, c), ask(t, turned)
		g.errors[0], g.errors[1] = g.errors[1], g.errors[0]
		if f != g {
			t.Error(c, f, g)
		}
		first, _ := count.First(c)
		if l, _ := count.First(turned); !slices.Equal(l, first) {
			t.Error(c, l, first)
		}
	}
}

// P11: the same count is told the same, however often it is asked.
func TestAskedAgain(t *testing.T) {
	for _, c := range smallCounts() {
		if hasTruth(c) && ask(t, c) != ask(t, c) {
			t.Error(c)
		}
	}
}

// P1.7: two sheets that are the same are the race, without an error.
func TestSameSheets(t *testing.T) {
	for _, sheet := range lists(2, api.CountPassings) {
		c := counted(2, sheet, sheet)
		same(t, c, [][]int{sheet})
		if n, e := count.Fewest(c); n != 0 || e != api.OK {
			t.Error(c, n, e)
		}
	}
}

// P1.7: no truth has fewer passings than a sheet, nor more than the first two have together.
func TestLengths(t *testing.T) {
	for i, c := range smallCounts() {
		if i%3 != 0 {
			continue
		}
		for _, race := range told(t, c) {
			for _, sheet := range c.Sheets {
				if len(race) < len(sheet) {
					t.Error(c, race, sheet)
				}
			}
			if len(race) > longest(c) {
				t.Error(c, race)
			}
		}
	}
}

// written returns a sheet of a race, with some errors, and how many.
func written(r *rand.Rand, pairs int, race []int) (sheet []int, errors int) {
	for _, p := range race {
		switch r.Intn(5) {
		case 0:
			errors++
		case 1:
			other := r.Intn(pairs)
			sheet = append(sheet, other)
			if other != p {
				errors++
			}
		default:
			sheet = append(sheet, p)
		}
	}
	return sheet, errors
}

// P1.7, P2, P3: no two counters make fewer errors than the fewest, and if they make as few, the race is a truth, and what is told contains what is so.
func TestWhatIsTrue(t *testing.T) {
	r := rand.New(rand.NewSource(13))
	truths := 0
	for range 1500 {
		pairs := 2 + r.Intn(3)
		race := make([]int, r.Intn(api.CountPassings+1))
		for i := range race {
			race[i] = r.Intn(pairs)
		}
		a, n := written(r, pairs, race)
		b, m := written(r, pairs, race)
		c := counted(pairs, a, b)
		fewest, e := count.Fewest(c)
		if fewest > n+m || e != api.OK {
			t.Error(race, c, fewest, n, m, e)
		}
		if fewest < n+m {
			continue
		}
		truths++
		if is, e := count.Is(c, race); !is || e != api.OK {
			t.Error(race, c, is, e)
		}
		contains(t, c, race)
	}
	if truths < 300 {
		t.Error("too few races are truths for a test", truths)
	}
}

// contains tests that what is told of a count contains a race.
func contains(t *testing.T, c api.Count, race []int) {
	t.Helper()
	f := ask(t, c)
	for i, sheet := range c.Sheets {
		if n, _ := errorsBy(race, sheet); !within(span(n, n), f.errors[i]) {
			t.Error(c, race, i, n)
		}
	}
	for pair := range c.Pairs {
		laps := times(race, pair)
		if f.laps[pair]>>laps&1 == 0 {
			t.Error(c, race, pair, f.laps)
		}
		for other := range c.Pairs {
			lead := laps - times(race, other)
			if pair != other && !within(span(lead, lead), f.leads[pair][other]) {
				t.Error(c, race, pair, other, f.leads)
			}
		}
	}
}

// P1.7, P1.8, P2: a third sheet, or a fourth, leaves no more races, and nothing is told less exactly.
func TestMoreSheets(t *testing.T) {
	r := rand.New(rand.NewSource(14))
	for _, c := range smallCounts() {
		if len(c.Sheets) != 2 && len(c.Sheets) != 3 || !hasTruth(c) {
			continue
		}
		more := with(c, randomCount(r, c.Pairs, 1, 3).Sheets[0])
		if !hasTruth(more) {
			continue
		}
		f, g := ask(t, c), ask(t, more)
		exact := g.many <= f.many
		for i := range c.Sheets {
			exact = exact && within(g.errors[i], f.errors[i])
		}
		for pair := range c.Pairs {
			exact = exact && g.laps[pair]&^f.laps[pair] == 0
			for other := range c.Pairs {
				exact = exact && within(g.leads[pair][other], f.leads[pair][other])
			}
		}
		if !exact {
			t.Error(more, f, g)
		}
		for _, race := range told(t, more) {
			if !must(t)(count.Is(c, race)) {
				t.Error(more, race)
			}
		}
	}
}

// P1.8: a further sheet that is a truth leaves just this one.
func TestTruthAsSheet(t *testing.T) {
	for i, c := range smallCounts() {
		if i%2 != 0 || len(c.Sheets) == api.CountSheets {
			continue
		}
		for _, race := range told(t, c) {
			if len(race) > api.CountPassings {
				continue
			}
			more := with(c, race)
			if len(c.Sheets) == 1 {
				more = with(more, race)
			}
			same(t, more, [][]int{race})
		}
	}
}

// P1.8: with other numbers of pairs only these change.
func TestOtherNumbers(t *testing.T) {
	r := rand.New(rand.NewSource(15))
	for _, c := range smallCounts() {
		if !hasTruth(c) {
			continue
		}
		number := r.Perm(c.Pairs)
		other := counted(c.Pairs)
		for _, sheet := range c.Sheets {
			var l []int
			for _, p := range sheet {
				l = append(l, number[p])
			}
			other.Sheets = append(other.Sheets, l)
		}
		f, g := ask(t, c), ask(t, other)
		if f.fewest != g.fewest || f.many != g.many || f.errors != g.errors {
			t.Error(c, other, f, g)
		}
		for a := range c.Pairs {
			if f.laps[a] != g.laps[number[a]] {
				t.Error(c, other, a, f, g)
			}
			for b := range c.Pairs {
				if a != b {
					sameSettle(t, c, other, [2]int{a, b}, [2]int{number[a], number[b]})
				}
				if f.leads[a][b] != g.leads[number[a]][number[b]] {
					t.Error(c, other, a, b, f, g)
				}
			}
		}
	}
}

// sameSettle tests that the same settles two pairs of one count, and two of another one.
func sameSettle(t *testing.T, c, other api.Count, pairs, others [2]int) {
	t.Helper()
	n, e := count.Settle(c, pairs[0], pairs[1])
	m, f := count.Settle(other, others[0], others[1])
	if n != m || e != f {
		t.Error(c, pairs, n, e, other, others, m, f)
	}
}

// P1.8: with all sheets read from behind all races are so, too.
func TestFromBehind(t *testing.T) {
	behind := func(l []int) []int {
		b := slices.Clone(l)
		slices.Reverse(b)
		return b
	}
	for i, c := range smallCounts() {
		if !hasTruth(c) {
			continue
		}
		back := counted(c.Pairs)
		for _, sheet := range c.Sheets {
			back.Sheets = append(back.Sheets, behind(sheet))
		}
		if f, g := ask(t, c), ask(t, back); f != g {
			t.Error(c, f, g)
		}
		if i%3 != 0 {
			continue
		}
		for _, race := range told(t, c) {
			if !must(t)(count.Is(back, behind(race))) {
				t.Error(c, race)
			}
		}
	}
}

// P1.8: once it is known whose the passing is that settles a lead, the lead is settled.
func TestSettledThen(t *testing.T) {
	r := rand.New(rand.NewSource(17))
	settled := 0
	for range 400 {
		c := randomCount(r, 2+r.Intn(2), 2+r.Intn(2), 3)
		passing, e := count.Settle(c, 0, 1)
		if e != api.OK {
			continue
		}
		settled++
		sides := map[int]int{}
		for _, race := range told(t, c) {
			who := -1
			if passing < len(race) {
				who = race[passing]
			}
			sides[who] |= 1 << (cmp.Compare(times(race, 0), times(race, 1)) + 1)
		}
		for who, set := range sides {
			if set&(set-1) != 0 {
				t.Error(c, passing, who, set)
			}
		}
	}
	if settled < 10 {
		t.Error("too few leads can be settled for a test", settled)
	}
}

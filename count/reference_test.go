package count_test

import (
	"cmp"
	"math/bits"
	"math/rand"
	"slices"
	"testing"

	"lapworks/api"
	"lapworks/count"
)

// What the chapter defines is done here as it stands there: all races are tried, and of each all ways to leave passings out.

// errorsBy returns how many errors a sheet has by a race, and whether there is such a number.
func errorsBy(race, sheet []int) (int, bool) {
	fewest, found := 0, false
	for kept := range 1 << len(race) {
		if bits.OnesCount(uint(kept)) != len(sheet) {
			continue
		}
		errors, at := len(race)-len(sheet), 0
		for i, p := range race {
			if kept>>i&1 == 1 {
				if sheet[at] != p {
					errors++
				}
				at++
			}
		}
		if !found || errors < fewest {
			fewest, found = errors, true
		}
	}
	return fewest, found
}

// leastBy returns those of the races for which the number is least, without those that have none.
func leastBy(races [][]int, number func([]int) (int, bool)) [][]int {
	var kept [][]int
	least := 0
	for _, race := range races {
		n, ok := number(race)
		if !ok {
			continue
		}
		if len(kept) == 0 || n < least {
			kept, least = nil, n
		}
		if n == least {
			kept = append(kept, race)
		}
	}
	return kept
}

// truthsOf returns the truths of a count among the races of at most so many passings.
func truthsOf(c api.Count, most int) [][]int {
	if len(c.Sheets) == 1 {
		return [][]int{c.Sheets[0]}
	}
	truths := leastBy(lists(c.Pairs, most), func(race []int) (int, bool) {
		n, ok := errorsBy(race, c.Sheets[0])
		m, well := errorsBy(race, c.Sheets[1])
		return n + m, ok && well
	})
	for _, sheet := range c.Sheets[2:] {
		truths = leastBy(truths, func(race []int) (int, bool) { return errorsBy(race, sheet) })
	}
	return truths
}

// spanOf returns the span of the numbers of races.
func spanOf(races [][]int, number func([]int) int) api.Span {
	s := span(number(races[0]), number(races[0]))
	for _, race := range races {
		s.Lo, s.Hi = min(s.Lo, number(race)), max(s.Hi, number(race))
	}
	return s
}

// settles returns whether a passing settles what a number of two races is, if it is the same of both.
func settles(races [][]int, passing int, number func([]int) int) bool {
	at := func(race []int) int {
		if passing < len(race) {
			return race[passing]
		}
		return -1
	}
	for _, a := range races {
		for _, b := range races {
			if at(a) == at(b) && number(a) != number(b) {
				return false
			}
		}
	}
	return true
}

// settling returns what Settle has to return.
func settling(races [][]int, pair, other int) (int, api.Errno) {
	side := func(race []int) int { return cmp.Compare(times(race, pair), times(race, other)) }
	if s := spanOf(races, side); s.Lo == s.Hi {
		return 0, api.ErrRefuse
	}
	for passing := range 20 {
		if settles(races, passing, side) {
			return passing, api.OK
		}
	}
	return 0, api.ErrNone
}

// same tests all functions of a count against its truths.
func same(t *testing.T, c api.Count, truths [][]int) {
	t.Helper()
	if n, e := count.Count(c); n != len(truths) || e != api.OK {
		t.Error("Count", c, n, e, len(truths))
	}
	if len(truths) == 0 {
		clashes(t, c)
		return
	}
	sum := 0
	for _, sheet := range c.Sheets {
		n, _ := errorsBy(truths[0], sheet)
		sum += n
	}
	if n, e := count.Fewest(c); n != sum || e != api.OK {
		t.Error("Fewest", c, n, e, sum)
	}
	if l, e := count.First(c); !slices.Equal(l, truths[0]) || e != api.OK {
		t.Error("First", c, l, e, truths[0])
	}
	for i, sheet := range c.Sheets {
		want := spanOf(truths, func(race []int) int {
			n, _ := errorsBy(race, sheet)
			return n
		})
		if s, e := count.Errors(c, i); s != want || e != api.OK {
			t.Error("Errors", c, i, s, e, want)
		}
	}
	for pair := range c.Pairs {
		samePair(t, c, truths, pair)
	}
}

// samePair tests the functions of a pair.
func samePair(t *testing.T, c api.Count, truths [][]int, pair int) {
	t.Helper()
	set := 0
	for _, race := range truths {
		set |= 1 << times(race, pair)
	}
	if n, e := count.Laps(c, pair); n != set || e != api.OK {
		t.Error("Laps", c, pair, n, e, set)
	}
	for other := range c.Pairs {
		if other == pair {
			continue
		}
		want := spanOf(truths, func(race []int) int { return times(race, pair) - times(race, other) })
		if s, e := count.Lead(c, pair, other); s != want || e != api.OK {
			t.Error("Lead", c, pair, other, s, e, want)
		}
		passing, err := settling(truths, pair, other)
		if n, e := count.Settle(c, pair, other); n != passing || e != err {
			t.Error("Settle", c, pair, other, n, e, passing, err)
		}
	}
}

// clashes tests the functions of a count without a truth.
func clashes(t *testing.T, c api.Count) {
	t.Helper()
	if n, e := count.Fewest(c); n != 0 || e != api.ErrClash {
		t.Error("Fewest", c, n, e)
	}
	if l, e := count.First(c); len(l) != 0 || e != api.ErrClash {
		t.Error("First", c, l, e)
	}
	if s, e := count.Errors(c, 0); s != span(0, 0) || e != api.ErrClash {
		t.Error("Errors", c, s, e)
	}
	if n, e := count.Laps(c, 0); n != 0 || e != api.ErrClash {
		t.Error("Laps", c, n, e)
	}
	if c.Pairs == 1 {
		return
	}
	if s, e := count.Lead(c, 0, 1); s != span(0, 0) || e != api.ErrClash {
		t.Error("Lead", c, s, e)
	}
	if n, e := count.Settle(c, 0, 1); n != 0 || e != api.ErrClash {
		t.Error("Settle", c, n, e)
	}
}

// P1.1 to P1.6, and P3 of the document: each pair of short sheets of two pairs, also with a third one.
func TestAllShortSheets(t *testing.T) {
	short := lists(2, 3)
	for i, a := range short {
		for j, b := range short {
			c := counted(2, a, b)
			same(t, c, truthsOf(c, longest(c)+1))
			if (i+j)%3 == 0 {
				for _, third := range lists(2, 2) {
					c := with(c, third)
					same(t, c, truthsOf(c, longest(c)+1))
				}
			}
		}
	}
}

// P1.1 to P1.6: counts of each number of pairs and sheets.
func TestSmallCounts(t *testing.T) {
	for _, c := range smallCounts() {
		same(t, c, truthsOf(c, longest(c)+1))
	}
	r := rand.New(rand.NewSource(16))
	for i := range 40 {
		c := randomCount(r, api.CountPairs, 1+i%api.CountSheets, 3)
		same(t, c, truthsOf(c, longest(c)+1))
	}
}

// P1.5: leads that a passing settles which some truths are too short to have.
func TestTooShort(t *testing.T) {
	for _, c := range []api.Count{
		counted(3, list(1, 0, 2), list(2, 1, 1), list(2, 1, 0)),
		counted(4, list(2, 3, 1), list(3, 2, 1, 3), list(1, 3, 1)),
		counted(2, list(1, 0, 1, 0, 0, 0), list(0, 0, 0, 1, 1, 0), list(1, 1, 0, 0, 1, 1)),
		counted(3, list(1, 0, 2, 2, 1), list(2, 1, 0, 2, 1, 0), list(1, 0, 2, 1, 2, 1)),
	} {
		same(t, c, truthsOf(c, min(longest(c), 9)))
	}
}

// P1.2: of all races just the truths are told to be some.
func TestIsOfAllRaces(t *testing.T) {
	for i, c := range smallCounts() {
		if i%4 != 0 {
			continue
		}
		truths := truthsOf(c, longest(c)+1)
		if races := told(t, c); !slices.EqualFunc(races, truths, slices.Equal) {
			t.Error(c, races, truths)
		}
	}
}

// P1.1 to P1.6, R7: sheets as long as they can be. (No race of more than nine passings has as few errors as a sheet itself.)
func TestLongSheets(t *testing.T) {
	r := rand.New(rand.NewSource(12))
	for i := range 24 {
		c := randomCount(r, 2+i%2, 2+i%3, api.CountPassings)
		for len(c.Sheets[0]) < api.CountPassings {
			c.Sheets[0] = append(c.Sheets[0], r.Intn(c.Pairs))
		}
		if i%3 == 0 {
			c.Sheets[1] = c.Sheets[0][1:]
		}
		same(t, c, truthsOf(c, 9))
	}
}

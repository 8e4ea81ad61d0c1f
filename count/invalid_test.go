package count_test

import (
	"math"
	"slices"
	"testing"

	"lapworks/api"
	"lapworks/count"
)

// refused tests that all functions refuse a count and numbers with an error, and return nothing else.
func refused(t *testing.T, c api.Count, pair, other, sheet int, race []int, want api.Errno) {
	t.Helper()
	if is, e := count.Is(c, race); is || e != want {
		t.Error("Is", c, race, is, e)
	}
	if n, e := count.Laps(c, pair); n != 0 || e != want {
		t.Error("Laps", c, pair, n, e)
	}
	if s, e := count.Lead(c, pair, other); s != span(0, 0) || e != want {
		t.Error("Lead", c, pair, other, s, e)
	}
	if s, e := count.Lead(c, other, pair); s != span(0, 0) || e != want {
		t.Error("Lead", c, other, pair, s, e)
	}
	if n, e := count.Settle(c, pair, other); n != 0 || e != want {
		t.Error("Settle", c, pair, other, n, e)
	}
	if n, e := count.Settle(c, other, pair); n != 0 || e != want {
		t.Error("Settle", c, other, pair, n, e)
	}
	if s, e := count.Errors(c, sheet); s != span(0, 0) || e != want {
		t.Error("Errors", c, sheet, s, e)
	}
}

// R1, R2: whatever else is asked for, a count that is not valid comes first.
func TestNotValid(t *testing.T) {
	long := make([]int, api.CountPassings+1)
	for _, c := range []api.Count{
		{}, counted(0, nil), counted(-1, nil), counted(5, nil), counted(math.MaxInt, nil), counted(math.MinInt, nil),
		counted(2), counted(2, nil, nil, nil, nil, nil), counted(2, make([][]int, 1<<12)...),
		counted(2, long), counted(2, nil, long), counted(2, nil, nil, nil, long), counted(2, make([]int, 1<<16)),
		counted(2, list(2)), counted(2, list(-1)), counted(2, list(0, 1), list(0, math.MaxInt)), counted(4, list(0), nil, nil, list(3, 4)),
		// without the last sheet there is no truth either
		with(clashing(), list(math.MinInt)),
	} {
		if n, e := count.Fewest(c); n != 0 || e != api.ErrArg {
			t.Error("Fewest", c, n, e)
		}
		if n, e := count.Count(c); n != 0 || e != api.ErrArg {
			t.Error("Count", c, n, e)
		}
		if l, e := count.First(c); len(l) != 0 || e != api.ErrArg {
			t.Error("First", c, l, e)
		}
		refused(t, c, 0, 1, 0, nil, api.ErrArg)
		refused(t, c, -1, -1, 9, list(-1, 9), api.ErrArg)
	}
}

// R1, R2: numbers out of their range come before a clash.
func TestOutOfRange(t *testing.T) {
	for _, c := range []api.Count{exampleC(), exampleD(), exampleE(), counted(1, nil), clashing()} {
		for _, n := range []int{c.Pairs, -1, math.MaxInt, math.MinInt} {
			refused(t, c, n, 0, len(c.Sheets), list(0, n), api.ErrRange)
			refused(t, c, n, n, -1, list(n), api.ErrRange)
			refused(t, c, n, 0, math.MaxInt, append(make([]int, 1<<12), n), api.ErrRange)
		}
		for pair := range c.Pairs {
			if s, e := count.Lead(c, pair, pair); s != span(0, 0) || e != api.ErrRange {
				t.Error(c, pair, s, e)
			}
			if n, e := count.Settle(c, pair, pair); n != 0 || e != api.ErrRange {
				t.Error(c, pair, n, e)
			}
		}
	}
}

// A further sheet that no truth is long enough for leaves none; a later one does not bring any back.
func TestNoTruth(t *testing.T) {
	for _, c := range []api.Count{clashing(), with(clashing(), list(0, 1)), counted(1, nil, nil, list(0)), counted(4, list(1), list(2), list(1, 1, 1), nil)} {
		if n, e := count.Count(c); n != 0 || e != api.OK {
			t.Error(c, n, e)
		}
		if is, e := count.Is(c, c.Sheets[0]); is || e != api.OK {
			t.Error(c, is, e)
		}
		clashes(t, c)
	}
}

// R7: the limits themselves are valid.
func TestLimits(t *testing.T) {
	full := list(0, 1, 2, 3, 0, 1)
	for i, c := range []api.Count{counted(1, nil), counted(4, full, full, full, full), counted(4, nil, full), counted(4, full, list(3, 3, 3, 3, 3, 3))} {
		if n, e := count.Count(c); n < 1 || e != api.OK {
			t.Error(i, n, e)
		}
		if s, e := count.Errors(c, len(c.Sheets)-1); s.Lo < 0 || e != api.OK {
			t.Error(i, s, e)
		}
		if n, e := count.Laps(c, c.Pairs-1); n == 0 || e != api.OK {
			t.Error(i, n, e)
		}
	}
}

// P1 of the document: no argument leads to a panic.
func TestAnyArguments(t *testing.T) {
	odd := []int{math.MinInt, -1, 0, 1, 3, 4, 7, math.MaxInt}
	sheets := [][][]int{nil, {nil}, {nil, nil, nil, nil}, {odd}, {{0}, {0, 0, 0}, {0, 0, 0, 0, 0, 0}}, make([][]int, 9)}
	for _, pairs := range odd {
		for _, s := range sheets {
			c := counted(pairs, s...)
			count.Fewest(c)
			count.Count(c)
			count.First(c)
			count.Is(c, odd)
			for _, a := range odd {
				count.Laps(c, a)
				count.Errors(c, a)
				for _, b := range odd {
					count.Lead(c, a, b)
					count.Settle(c, a, b)
				}
			}
		}
	}
}

// R3: an empty list is the same as none.
func TestNilAndEmpty(t *testing.T) {
	a, b := counted(2, nil, list(1)), counted(2, []int{}, list(1))
	same(t, a, truthsOf(a, 3))
	same(t, b, truthsOf(b, 3))
	if _, e := count.Count(api.Count{Pairs: 2, Sheets: [][]int{}}); e != api.ErrArg {
		t.Error(e)
	}
}

// R4: arguments are as they were, and a result shares no memory with them, or with another one.
func TestMemory(t *testing.T) {
	c, race := counted(3, list(0, 1, 2), list(0, 2, 2), list(0, 2)), list(0, 1, 2)
	same(t, c, truthsOf(c, 6))
	count.Is(c, race)
	if !slices.EqualFunc(c.Sheets, [][]int{{0, 1, 2}, {0, 2, 2}, {0, 2}}, slices.Equal) || !slices.Equal(race, list(0, 1, 2)) {
		t.Error(c, race)
	}
	for _, c := range []api.Count{counted(3, list(0, 1, 2)), exampleC(), exampleE()} {
		l, _ := count.First(c)
		was := slices.Clone(l)
		clear(l[:cap(l)])
		for i := range l {
			l[i] = 9
		}
		if again, e := count.First(c); !slices.Equal(again, was) || e != api.OK {
			t.Error(again, e)
		}
	}
}

package fine_test

import (
	"slices"
	"testing"

	"lapworks/api"
	"lapworks/fine"
)

// dear is a rule by which all that is done again in few hours costs more.
func dear() api.FineRule { return rule(10, 5, 18, 10) }

// P11.1: the chapter's examples; the window, the same hour, other riders, other kinds, and the most.
func TestCost(t *testing.T) {
	for i, x := range []struct {
		f    api.Fines
		want []api.Span
	}{
		{exampleF(), list(span(10, 10), span(10, 15), span(10, 15), span(4, 4))},
		{of(nil, 2), nil}, {of(list(dear()), 6), nil}, {of(list(dear()), 2, done(0, 3, 3, 1)), list(span(10, 10))}, {of(list(rule(0, 9, 9, 9)), 2, done(0, 3, 3, 1)), list(span(0, 0))},
		// Just in the window, and just not; a window of no hours is the same hour.
		{of(list(dear()), 2, done(0, 3, 3, 0), done(0, 13, 13, 0)), list(span(10, 10), span(15, 15))}, {of(list(dear()), 2, done(0, 3, 3, 0), done(0, 14, 14, 0)), list(span(10, 10), span(10, 10))}, {of(list(dear()), 2, done(0, 3, 3, 0), done(0, 12, 14, 0)), list(span(10, 10), span(10, 15))},
		{of(list(rule(10, 5, 99, 0)), 2, done(0, 3, 3, 0), done(0, 3, 3, 0), done(0, 4, 4, 0)), list(span(10, 10), span(15, 15), span(10, 10))}, {of(list(rule(10, 5, 99, 0)), 2, done(0, 3, 4, 0), done(0, 3, 3, 0)), list(span(10, 10), span(10, 15))}, {of(list(rule(10, 5, 99, 0)), 2, done(0, 3, 3, 0), done(0, 2, 3, 0)), list(span(10, 10), span(10, 15))},
		// Which comes first is told by the hours, and only then by the numbers.
		{of(list(dear()), 2, done(0, 4, 4, 0), done(0, 3, 3, 0)), list(span(15, 15), span(10, 10))}, {of(list(dear()), 2, done(0, 4, 4, 0), done(0, 4, 4, 0)), list(span(10, 10), span(15, 15))}, {of(list(dear()), 2, done(0, 4, 5, 0), done(0, 4, 4, 0)), list(span(10, 15), span(10, 15))}, {of(list(dear()), 2, done(0, 4, 4, 0), done(0, 4, 6, 0)), list(span(10, 10), span(15, 15))}, {of(list(dear()), 2, done(0, 4, 6, 0), done(0, 4, 6, 0)), list(span(10, 15), span(10, 15))},
		// Each earlier one counts, and not only those that cost more themselves; but at most the most.
		{of(list(rule(10, 5, 99, 9)), 2, done(0, 1, 1, 0), done(0, 2, 2, 0), done(0, 3, 3, 0), done(0, 4, 4, 0), done(0, 5, 5, 0)), list(span(10, 10), span(15, 15), span(20, 20), span(25, 25), span(30, 30))}, {of(list(rule(10, 5, 99, 2)), 2, done(0, 1, 1, 0), done(0, 2, 2, 0), done(0, 3, 3, 0), done(0, 4, 4, 0), done(0, 5, 5, 0)), list(span(10, 10), span(15, 15), span(20, 20), span(20, 20), span(20, 20))}, {of(list(rule(10, 5, 17, 9)), 2, done(0, 1, 1, 0), done(0, 2, 2, 0), done(0, 3, 3, 0)), list(span(10, 10), span(15, 15), span(17, 17))},
		// The first one can be too dear, too.
		{of(list(rule(10, 5, 7, 9)), 2, done(0, 1, 1, 0), done(0, 2, 2, 0)), list(span(7, 7), span(7, 7))}, {of(list(rule(10, 5, 0, 9)), 2, done(0, 1, 1, 0), done(0, 2, 2, 0)), list(span(0, 0), span(0, 0))},
		// Others, also the partner, and other kinds, also of the same rule, make nothing dearer.
		{of(list(dear()), 4, done(0, 1, 1, 0), done(0, 2, 2, 1), done(0, 3, 3, 2)), list(span(10, 10), span(10, 10), span(10, 10))}, {of(list(dear(), dear()), 2, done(0, 1, 1, 0), done(1, 2, 2, 0), done(0, 3, 3, 0)), list(span(10, 10), span(10, 10), span(15, 15))},
		// Who did the one need not be who did the other one.
		{of(list(dear()), 2, done(0, 1, 1, 0, 1), done(0, 2, 2, 0)), list(span(10, 10), span(10, 15))}, {of(list(dear()), 2, done(0, 1, 1, 0), done(0, 2, 2, 1), done(0, 3, 3, 0, 1)), list(span(10, 10), span(10, 10), span(15, 15))}, {of(list(rule(10, 5, 99, 9)), 6, done(0, 1, 1, 3, 5), done(0, 2, 2, 4, 5), done(0, 3, 3, 3, 4)), list(span(10, 10), span(10, 15), span(10, 15))},
	} {
		for offence, want := range x.want {
			if s := resultOf(fine.Cost(x.f, offence)); s != so(want) {
				t.Error(i, offence, s)
			}
		}
	}
}

// P11.2: the chapter's examples; the greater half, of each offence alone, is the rider's, and the lesser one the partner's.
func TestFineAndPays(t *testing.T) {
	for i, x := range []struct {
		f           api.Fines
		fines, pays []api.Span
	}{
		{exampleF(), list(span(20, 40), span(0, 10), span(0, 4), span(0, 4)), list(span(15, 21), span(15, 19), span(2, 2), span(2, 2))},
		{of(nil, 2), list(span(0, 0), span(0, 0)), list(span(0, 0), span(0, 0))}, {of(list(rule(9, 0, 9, 0)), 2, done(0, 1, 1, 0)), list(span(9, 9), span(0, 0)), list(span(5, 5), span(4, 4))}, {of(list(rule(9, 0, 9, 0)), 2, done(0, 1, 1, 1)), list(span(0, 0), span(9, 9)), list(span(4, 4), span(5, 5))}, {of(list(rule(8, 0, 9, 0)), 2, done(0, 1, 1, 1)), list(span(0, 0), span(8, 8)), list(span(4, 4), span(4, 4))}, {of(list(rule(1, 0, 9, 0)), 2, done(0, 1, 1, 1)), list(span(0, 0), span(1, 1)), list(span(0, 0), span(1, 1))},
		// Three halves are rounded one by one.
		{of(list(rule(9, 0, 9, 0)), 2, done(0, 1, 1, 0), done(0, 1, 1, 0), done(0, 1, 1, 0)), list(span(27, 27), span(0, 0)), list(span(15, 15), span(12, 12))}, {of(list(rule(9, 0, 9, 0)), 2, done(0, 1, 1, 0), done(0, 1, 1, 1), done(0, 1, 1, 0)), list(span(18, 18), span(9, 9)), list(span(14, 14), span(13, 13))},
		// Partners are 0 and 1, 2 and 3, 4 and 5.
		{of(list(rule(7, 0, 7, 0)), 6, done(0, 1, 1, 2), done(0, 1, 1, 5)), list(span(0, 0), span(0, 0), span(7, 7), span(0, 0), span(0, 0), span(7, 7)), list(span(0, 0), span(0, 0), span(4, 4), span(3, 3), span(3, 3), span(4, 4))}, {of(list(rule(7, 0, 7, 0)), 4, done(0, 1, 1, 1, 2)), list(span(0, 0), span(0, 7), span(0, 7), span(0, 0)), list(span(0, 3), span(0, 4), span(0, 4), span(0, 3))},
		{of(list(rule(7, 0, 7, 0)), 2, done(0, 1, 1, 0, 1)), list(span(0, 7), span(0, 7)), list(span(3, 4), span(3, 4))},
		// What can be for each need not be for all at once: of two offences the dearer one cannot be both.
		{of(list(dear()), 2, done(0, 4, 6, 0), done(0, 4, 6, 0)), list(span(25, 25), span(0, 0)), list(span(13, 13), span(12, 12))}, {of(list(dear()), 2, done(0, 4, 6, 0, 1), done(0, 4, 6, 0, 1)), list(span(0, 25), span(0, 25)), list(span(10, 13), span(10, 13))},
		// Two kinds are added.
		{of(list(rule(10, 5, 15, 1), rule(3, 1, 4, 2)), 2, done(0, 1, 1, 0), done(1, 1, 1, 0), done(0, 2, 3, 0), done(1, 2, 4, 0)), list(span(26, 32), span(0, 0)), list(span(14, 17), span(12, 15))},
	} {
		for rider := range x.f.Riders {
			if s := resultOf(fine.Fine(x.f, rider)); s != so(x.fines[rider]) {
				t.Error("Fine", i, rider, s)
			}
			if s := resultOf(fine.Pays(x.f, rider)); s != so(x.pays[rider]) {
				t.Error("Pays", i, rider, s)
			}
		}
	}
}

// P11.3: the chapter's examples; no offences, and what costs least together.
func TestTotal(t *testing.T) {
	for i, x := range []struct {
		f    api.Fines
		want api.Span
	}{
		{exampleF(), span(34, 44)}, {of(nil, 2), span(0, 0)}, {of(list(dear(), dear()), 4), span(0, 0)}, {of(list(dear()), 4, done(0, 1, 1, 0, 1, 2, 3)), span(10, 10)},
		{of(list(dear()), 2, done(0, 4, 6, 0), done(0, 4, 6, 0)), span(25, 25)}, {of(list(dear()), 2, done(0, 4, 6, 0, 1), done(0, 4, 6, 0, 1)), span(20, 25)}, {of(list(rule(10, 5, 99, 1)), 2, done(0, 4, 6, 0), done(0, 4, 6, 0)), span(20, 25)},
		// Of three offences and two riders one did two, of four each two, or one more.
		{of(list(rule(10, 5, 99, 9)), 2, done(0, 1, 1, 0, 1), done(0, 1, 1, 0, 1), done(0, 1, 1, 0, 1)), span(35, 45)}, {of(list(rule(10, 5, 99, 9)), 2, done(0, 1, 1, 0, 1), done(0, 1, 1, 0, 1), done(0, 1, 1, 0, 1), done(0, 1, 1, 0, 1)), span(50, 70)}, {of(list(rule(10, 5, 99, 9)), 6, done(0, 1, 1, 0, 2, 4), done(0, 1, 1, 0, 2, 4), done(0, 1, 1, 0, 2, 4)), span(30, 45)},
		{of(list(rule(10, 5, 99, 9), rule(1, 2, 99, 9)), 2, done(0, 1, 1, 0, 1), done(1, 1, 1, 0, 1), done(0, 1, 1, 0), done(1, 1, 1, 1)), span(22, 29)},
	} {
		if s := resultOf(fine.Total(x.f)); s != so(x.want) {
			t.Error(i, s)
		}
	}
}

// P11.4: the chapter's examples; whoever is said to have done it, and whenever, and each at its number.
func TestExact(t *testing.T) {
	f := exampleF()
	for i, x := range []struct {
		f             api.Fines
		riders, hours []int
		want          []int
	}{
		{f, list(0, 0, 0, 2), list(5, 12, 20, 1), list(10, 15, 15, 4)}, {f, list(0, 1, 0, 2), list(5, 12, 20, 1), list(10, 10, 10, 4)}, {f, list(0, 0, 0, 3), list(5, 10, 15, 144), list(10, 15, 18, 4)}, {f, list(3, 3, 3, 3), list(144, 134, 124, 0), list(15, 15, 10, 4)}, {f, list(3, 3, 3, 3), list(144, 144, 144, 144), list(10, 15, 18, 4)}, {f, list(0, 1, 2, 3), list(0, 0, 0, 0), list(10, 10, 10, 4)},
		{of(nil, 2), nil, nil, nil}, {of(list(dear()), 6), []int{}, nil, nil}, {of(list(rule(1, 2, 9, 144)), 2, done(0, 0, 0, 0), done(0, 0, 0, 0)), list(1, 1), list(144, 0), list(3, 1)}, {of(list(rule(1, 2, 9, 143)), 2, done(0, 0, 0, 0), done(0, 0, 0, 0)), list(1, 1), list(144, 0), list(1, 1)},
		{of(list(rule(1, 2, 9, 9), rule(5, 1, 9, 9)), 2, done(1, 0, 0, 0), done(0, 0, 0, 0), done(1, 0, 0, 0), done(0, 0, 0, 0), done(1, 0, 0, 0)), list(0, 0, 0, 0, 1), list(5, 4, 3, 2, 1), list(6, 3, 5, 1, 5)},
	} {
		if l, e := fine.Exact(x.f, x.riders, x.hours); !slices.Equal(l, x.want) || e != api.OK {
			t.Error(i, l, e)
		}
	}
}

// P11.5: the chapter's examples; the fewest, of several the least number, and none if the fine is no more.
func TestWithdraw(t *testing.T) {
	cheap := rule(10, 0, 10, 0)
	same := of(list(cheap), 2, done(0, 1, 1, 0), done(0, 2, 2, 0), done(0, 3, 3, 0), done(0, 4, 4, 0), done(0, 5, 5, 0))
	mixed := of(list(rule(1, 0, 1, 0), rule(2, 0, 2, 0), rule(3, 0, 3, 0)), 2, done(0, 1, 1, 0), done(1, 1, 1, 0), done(2, 1, 1, 0))
	chain := of(list(rule(1, 10, 99, 1)), 2, done(0, 1, 1, 0), done(0, 2, 2, 0), done(0, 3, 3, 0))
	for i, x := range []struct {
		f                     api.Fines
		rider, most, offences int
	}{
		{exampleF(), 0, 20, set(1)}, {exampleF(), 0, 40, 0}, {exampleF(), 1, 0, set(1)}, {exampleF(), 0, 39, set(0)}, {exampleF(), 0, 25, set(0)}, {exampleF(), 0, 24, set(1)}, {exampleF(), 0, 19, set(0, 1)}, {exampleF(), 0, 9, set(0, 1, 2)}, {exampleF(), 0, 0, set(0, 1, 2)}, {exampleF(), 2, 3, set(3)}, {exampleF(), 2, 4, 0}, {exampleF(), 1, 9, set(1)}, {exampleF(), 1, 10, 0}, {exampleF(), 0, 1 << 60, 0},
		{of(nil, 2), 1, 0, 0}, {of(list(rule(0, 0, 0, 0)), 2, done(0, 1, 1, 0)), 0, 0, 0}, {same, 0, 50, 0}, {same, 0, 49, set(0)}, {same, 0, 30, set(0, 1)}, {same, 0, 29, set(0, 1, 2)}, {same, 0, 9, set(0, 1, 2, 3, 4)}, {same, 1, 0, 0},
		// One alone, rather than two of lesser numbers; and of those alone the least that is enough.
		{mixed, 0, 6, 0}, {mixed, 0, 5, set(0)}, {mixed, 0, 4, set(1)}, {mixed, 0, 3, set(2)}, {mixed, 0, 2, set(0, 2)}, {mixed, 0, 1, set(1, 2)}, {mixed, 0, 0, set(0, 1, 2)},
		// What made another one dearer does not any more: 23 coins, without the middle one 2, and without another one 12.
		{chain, 0, 23, 0}, {chain, 0, 22, set(0)}, {chain, 0, 12, set(0)}, {chain, 0, 11, set(1)}, {chain, 0, 2, set(1)}, {chain, 0, 1, set(0, 1)},
		// Somebody else can have done it, but need not.
		{of(list(cheap), 6, done(0, 1, 1, 0, 5), done(0, 1, 1, 1)), 5, 9, set(0)}, {of(list(cheap), 6, done(0, 1, 1, 1), done(0, 1, 1, 0, 5)), 5, 9, set(1)},
	} {
		if n, e := fine.Withdraw(x.f, x.rider, x.most); n != x.offences || e != api.OK {
			t.Error(i, n, e)
		}
	}
}

// The example 11 of the document.
func TestDocument(t *testing.T) {
	if s := resultOf(fine.Pays(exampleF(), 0)); s != so(span(15, 21)) {
		t.Error(s)
	}
}

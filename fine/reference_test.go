package fine_test

import (
	"iter"
	"math/bits"
	"math/rand"
	"slices"
	"testing"

	"lapworks/api"
	"lapworks/fine"
)

// What the chapter defines is done here as it stands there: all truths are gone through, and in each what each offence costs.

// truths returns an iterator over all truths of fines. A truth is valid until the next one comes.
func truths(f api.Fines) iter.Seq[truth] {
	return func(yield func(t truth) bool) {
		t := truth{make([]int, len(f.List)), make([]int, len(f.List))}
		var from func(offence int) bool
		from = func(offence int) bool {
			if offence == len(f.List) {
				return yield(t)
			}
			o := f.List[offence]
			for t.riders[offence] = range f.Riders {
				for hour := o.Hours.Lo; hour <= o.Hours.Hi && has(o.Riders, t.riders[offence]); hour++ {
					t.hours[offence] = hour
					if !from(offence + 1) {
						return false
					}
				}
			}
			return true
		}
		from(0)
	}
}

// costs returns what each offence costs in a truth.
func costs(f api.Fines, t truth) []int {
	all := []int{}
	for i, o := range f.List {
		rule := f.Rules[o.Kind]
		coins := rule.Base
		for j, other := range f.List {
			before := t.hours[j] < t.hours[i] || t.hours[j] == t.hours[i] && j < i
			if other.Kind == o.Kind && t.riders[j] == t.riders[i] && before && t.hours[j] >= t.hours[i]-rule.Window {
				coins += rule.Step
			}
		}
		all = append(all, min(coins, rule.Most))
	}
	return all
}

// halves returns the greater half of so many coins, and the lesser one.
func halves(coins int) (greater, lesser int) {
	for coins > 1 {
		greater, lesser, coins = greater+1, lesser+1, coins-2
	}
	return greater + coins, lesser
}

// bill is what comes of a truth: what each offence costs, each rider's fine, what each pays, and all together.
type bill struct {
	costs       [api.FineList]int
	fines, pays [api.FineRiders]int
	total       int
}

// billOf returns what comes of a truth.
func billOf(f api.Fines, t truth) bill {
	var b bill
	for i, coins := range costs(f, t) {
		rider := t.riders[i]
		partner := []int{1, 0, 3, 2, 5, 4}[rider]
		greater, lesser := halves(coins)
		b.costs[i] = coins
		b.fines[rider] += coins
		b.pays[rider] += greater
		b.pays[partner] += lesser
		b.total += coins
	}
	return b
}

// widen puts a number into a span, which is new if it is the first one.
func widen(s *outcome[api.Span], n int, first bool) {
	if first {
		s.result = span(n, n)
	}
	s.result = span(min(s.result.Lo, n), max(s.result.Hi, n))
}

// expected returns all spans that have to be told of fines.
func expected(f api.Fines) told {
	var a told
	first := true
	for t := range truths(f) {
		b := billOf(f, t)
		for i := range f.List {
			widen(&a.costs[i], b.costs[i], first)
		}
		for i := range f.Riders {
			widen(&a.fines[i], b.fines[i], first)
			widen(&a.pays[i], b.pays[i], first)
		}
		widen(&a.total, b.total, first)
		first = false
	}
	for i := len(f.List); i < len(a.costs); i++ {
		a.costs[i].e = api.ErrRange
	}
	for i := f.Riders; i < len(a.fines); i++ {
		a.fines[i].e, a.pays[i].e = api.ErrRange, api.ErrRange
	}
	return a
}

// checked tests what is told of fines against all truths, and returns it.
func checked(t *testing.T, f api.Fines) told {
	t.Helper()
	a, want := ask(f), expected(f)
	if a != want {
		t.Errorf("%+v\ntold     %+v\nexpected %+v", f, a, want)
	}
	return a
}

// P11.1 to P11.3, P11.7: all truths of few offences, or of few riders.
func TestAgainstTruths(t *testing.T) {
	r := rand.New(rand.NewSource(1101))
	wide := 0
	for i := range 4000 {
		a := checked(t, randomFines(r, i%5, 1+r.Intn(12)))
		if a.total.result.Lo < a.total.result.Hi {
			wide++
		}
	}
	if wide < 1000 {
		t.Error("too few are not known for a test", wide)
	}
}

// P11.1 to P11.3, R7: as many offences as there can be, all of which anybody can have done.
func TestMany(t *testing.T) {
	r := rand.New(rand.NewSource(1102))
	for i := range 30 {
		f := randomFines(r, api.FineList, 1+r.Intn(9))
		if i%2 == 0 {
			for n := range f.List {
				f.List[n].Kind = 0
			}
		}
		checked(t, f)
	}
	for _, riders := range list(2, 4, 6) {
		f := of(list(rule(3, 7, 40, 2)), riders)
		for i := range api.FineList {
			f.List = append(f.List, api.Offence{Riders: 1<<riders - 1, Hours: span(5-i/2, 7-i/2)})
		}
		checked(t, f)
	}
}

// offences returns all offences of a rule by riders of the first pair, in few hours.
func offences() []api.Offence {
	var all []api.Offence
	for riders := 1; riders < 4; riders++ {
		for lo := range 3 {
			for hi := lo; hi < 3; hi++ {
				all = append(all, api.Offence{Riders: riders, Hours: span(lo, hi)})
			}
		}
	}
	return all
}

// P11.1 to P11.3: all fines of two offences, and some of three, of each window that makes a difference.
func TestEachPair(t *testing.T) {
	for window := range 3 {
		rules := list(rule(3, 2, 6, window))
		for i, one := range offences() {
			for j, two := range offences() {
				checked(t, of(rules, 2, one, two))
				for n, three := range offences() {
					if (i+j+n)%5 == 0 {
						checked(t, of(rules, 2, one, two, three))
					}
				}
			}
		}
	}
}

// P11.4: each truth of few offences, and others.
func TestExactAgainstTruths(t *testing.T) {
	r := rand.New(rand.NewSource(1103))
	check := func(f api.Fines, x truth) {
		t.Helper()
		if a, e := fine.Exact(f, x.riders, x.hours); e != api.OK || !slices.Equal(a, costs(f, x)) {
			t.Errorf("%+v %+v: %v %v", f, x, a, e)
		}
	}
	for i := range 600 {
		f := randomFines(r, i%4, 1+r.Intn(9))
		for x := range truths(f) {
			check(f, x)
		}
	}
	for i := range 3000 {
		hours := 1 + r.Intn(api.FineHour)
		f := randomFines(r, i%(api.FineList+1), hours)
		var x truth
		for range f.List {
			x.riders, x.hours = append(x.riders, r.Intn(f.Riders)), append(x.hours, r.Intn(hours+1))
		}
		check(f, x)
	}
}

// greatest returns the greatest fine of a rider of all truths.
func greatest(f api.Fines, rider int) int {
	most := 0
	for t := range truths(f) {
		most = max(most, billOf(f, t).fines[rider])
	}
	return most
}

// fewest returns the set of the fewest offences without which a rider's fine is at most so much, by the greatest fine without each set.
func fewest(greatest []int, most int) int {
	for many := range len(greatest) {
		for offences, coins := range greatest {
			if bits.OnesCount(uint(offences)) == many && coins <= most {
				return offences
			}
		}
	}
	panic("there is no such set")
}

// P11.5: each rider of few offences, and each greatest fine.
func TestWithdrawAgainstTruths(t *testing.T) {
	r := rand.New(rand.NewSource(1104))
	found := [api.FineList + 1]int{}
	for i := range 800 {
		f := randomFines(r, i%5, 1+r.Intn(9))
		if i%3 == 0 {
			for n := range f.List {
				f.List[n].Riders |= 1
			}
		}
		for rider := range min(f.Riders, 1+i%3) {
			var all []int
			for offences := range 1 << len(f.List) {
				all = append(all, greatest(without(f, offences), rider))
			}
			for most := range all[0] + 2 {
				offences, e := fine.Withdraw(f, rider, most)
				if want := fewest(all, most); offences != want || e != api.OK {
					t.Errorf("%+v %v %v: %v %v, not %v", f, rider, most, offences, e, want)
				}
				found[bits.OnesCount(uint(offences))]++
			}
		}
	}
	if slices.Min(found[:5]) < 100 {
		t.Error("too few of a kind for a test", found)
	}
}

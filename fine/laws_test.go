package fine_test

import (
	"math/bits"
	"math/rand"
	"slices"
	"testing"

	"lapworks/api"
	"lapworks/fine"
)

// large returns fines with as many offences as there can be, or few fewer.
func large(r *rand.Rand) api.Fines {
	return randomFines(r, api.FineList-r.Intn(3), 1+r.Intn(1+r.Intn(api.FineHour)))
}

// sure returns the numbers of spans that have to be known.
func sure(t *testing.T, spans []outcome[api.Span]) []int {
	t.Helper()
	all := []int{}
	for _, s := range spans {
		if s.e != api.OK || s.result.Lo != s.result.Hi {
			t.Fatal(s)
		}
		all = append(all, s.result.Lo)
	}
	return all
}

// sum returns the sum of numbers.
func sum(all []int) int {
	n := 0
	for _, one := range all {
		n += one
	}
	return n
}

// P11.6, P9 of the document: in each truth the fines of all riders are what all offences cost, and so is what all pay; partners pay as much as they are fined.
func TestToTheLastCoin(t *testing.T) {
	r := rand.New(rand.NewSource(1111))
	odds := 0
	for range 600 {
		f := large(r)
		x := truly(r, f)
		a := ask(known(f, x))
		costs, fines, pays := sure(t, a.costs[:len(f.List)]), sure(t, a.fines[:f.Riders]), sure(t, a.pays[:f.Riders])
		if want := exactly(t, f, x); !slices.Equal(costs, want) {
			t.Errorf("%+v %+v: %v, not %v", f, x, costs, want)
		}
		all := sum(costs)
		if sum(fines) != all || sum(pays) != all || a.total != so(span(all, all)) {
			t.Errorf("%+v %+v: %v %v %v %v", f, x, costs, fines, pays, a.total)
		}
		for rider := 0; rider < f.Riders; rider += 2 {
			if fines[rider]+fines[rider+1] != pays[rider]+pays[rider+1] {
				t.Errorf("%+v %+v: %v %v", f, x, fines, pays)
			}
			if pays[rider] != pays[rider+1] {
				odds++
			}
		}
	}
	if odds < 100 {
		t.Error("too few partners pay otherwise for a test", odds)
	}
}

// P11.6: each offence is paid once: the greater half by the rider who did it, the lesser one by the partner, and nothing by others.
func TestEachIsPaidOnce(t *testing.T) {
	for coins := range 20 {
		for _, riders := range list(2, 4, 6) {
			for rider := range riders {
				f := of(list(rule(coins, 0, coins, 0)), riders, done(0, 1, 1, rider))
				greater, lesser := halves(coins)
				for other := range riders {
					want := 0
					if other == rider {
						want = greater
					} else if other/2 == rider/2 {
						want = lesser
					}
					if s := resultOf(fine.Pays(f, other)); s != so(span(want, want)) {
						t.Error(f, other, s)
					}
				}
			}
		}
	}
}

// P11.7, P2 of the document: whoever truly did what, and when, is within what is told.
func TestWhatIsTrue(t *testing.T) {
	r := rand.New(rand.NewSource(1112))
	wide := 0
	for range 300 {
		f := large(r)
		a := ask(f)
		for range 10 {
			x := truly(r, f)
			b := billOf(f, x)
			for i := range f.List {
				if a.costs[i].e != api.OK || !within(b.costs[i], a.costs[i].result) {
					t.Errorf("Cost %+v %+v %v: %v, told %v", f, x, i, b.costs[i], a.costs[i])
				}
			}
			for i := range f.Riders {
				if !within(b.fines[i], a.fines[i].result) || !within(b.pays[i], a.pays[i].result) {
					t.Errorf("%+v %+v %v: %+v, told %v %v", f, x, i, b, a.fines[i], a.pays[i])
				}
			}
			if !within(b.total, a.total.result) {
				t.Errorf("Total %+v %+v: %v, told %v", f, x, b.total, a.total)
			}
		}
		if a.total.result.Lo < a.total.result.Hi {
			wide++
		}
	}
	if wide < 50 {
		t.Error("too few are not known for a test", wide)
	}
}

// better returns fines of which it is known better who did an offence, or when, as it was in a truth.
func better(r *rand.Rand, f api.Fines, x truth) api.Fines {
	return changed(f, func(f *api.Fines) {
		i := r.Intn(len(f.List))
		o := &f.List[i]
		if r.Intn(2) == 0 {
			o.Riders = o.Riders&r.Intn(1<<f.Riders) | set(x.riders[i])
			return
		}
		hour := x.hours[i]
		o.Hours = span(hour-r.Intn(hour-o.Hours.Lo+1), hour+r.Intn(o.Hours.Hi-hour+1))
	})
}

// P11.7, P2 of the document: if it is known better who did something, or when, nothing is told less exactly.
func TestBetter(t *testing.T) {
	r := rand.New(rand.NewSource(1113))
	found := 0
	for range 400 {
		f := large(r)
		other := better(r, f, truly(r, f))
		a, b := ask(f), ask(other)
		if !b.sharper(a) {
			t.Errorf("%+v\n%+v\n%+v\n%+v", f, other, a, b)
		}
		for rider := range f.Riders {
			most := r.Intn(a.fines[rider].result.Hi + 1)
			before, after := must(fine.Withdraw(f, rider, most))(t), must(fine.Withdraw(other, rider, most))(t)
			if bits.OnesCount(uint(after)) > bits.OnesCount(uint(before)) {
				t.Errorf("%+v %+v %v %v: %v %v", f, other, rider, most, before, after)
			}
		}
		if a != b {
			found++
		}
	}
	if found < 50 {
		t.Error("too few are known better for a test", found)
	}
}

// P11.7: with an offence less nobody can be fined more, and none of the others costs more.
func TestLess(t *testing.T) {
	r := rand.New(rand.NewSource(1114))
	less := 0
	for range 250 {
		f := large(r)
		a := ask(f)
		for gone := range f.List {
			b := ask(without(f, set(gone)))
			for i := range f.Riders {
				if b.fines[i].result.Hi > a.fines[i].result.Hi || b.fines[i].result.Lo > a.fines[i].result.Lo {
					t.Errorf("%+v %v: %v %v", f, gone, a.fines, b.fines)
				}
				if b.fines[i] != a.fines[i] {
					less++
				}
			}
			for i := range len(f.List) - 1 {
				old := a.costs[i]
				if i >= gone {
					old = a.costs[i+1]
				}
				if b.costs[i].result.Hi > old.result.Hi || b.costs[i].result.Lo > old.result.Lo {
					t.Errorf("%+v %v: %v %v", f, gone, a.costs, b.costs)
				}
			}
		}
	}
	if less < 500 {
		t.Error("too few are fined less for a test", less)
	}
}

// P11.5, P11.7: without what is told the fine is no more than that, without fewer offences it can be, and without as many of a lesser number, too.
func TestEachHasToBe(t *testing.T) {
	r := rand.New(rand.NewSource(1115))
	several := 0
	for range 150 {
		f := large(r)
		rider := r.Intn(f.Riders)
		can := func(offences int) int { return must(fine.Fine(without(f, offences), rider))(t).Hi }
		most := r.Intn(can(0) + 1)
		told := must(fine.Withdraw(f, rider, most))(t)
		if told>>len(f.List) != 0 || can(told) > most {
			t.Errorf("%+v %v %v: %v", f, rider, most, told)
		}
		many := bits.OnesCount(uint(told))
		for offences := range 1 << len(f.List) {
			n := bits.OnesCount(uint(offences))
			if (n < many || n == many && offences < told) && can(offences) <= most {
				t.Errorf("%+v %v %v: %v, but %v", f, rider, most, told, offences)
			}
		}
		if again := must(fine.Withdraw(without(f, told), rider, most))(t); again != 0 {
			t.Errorf("%+v %v %v: %v, then %v", f, rider, most, told, again)
		}
		// Nobody withdraws what the rider cannot have done.
		for i, o := range f.List {
			if has(told, i) && !has(o.Riders, rider) {
				t.Errorf("%+v %v %v: %v", f, rider, most, told)
			}
		}
		if many > 1 {
			several++
		}
	}
	if several < 10 {
		t.Error("too few have several for a test", several)
	}
}

// partners returns other numbers of so many riders, partners with partners.
func partners(r *rand.Rand, riders int) []int {
	number := make([]int, riders)
	for one, two := range r.Perm(riders / 2) {
		swap := r.Intn(2)
		number[2*one], number[2*one+1] = 2*two+swap, 2*two+1-swap
	}
	return number
}

// numbered returns fines whose riders, and rules, have other numbers.
func numbered(f api.Fines, rider, kind []int) api.Fines {
	return changed(f, func(f *api.Fines) {
		rules := slices.Clone(f.Rules)
		for i, r := range rules {
			f.Rules[kind[i]] = r
		}
		for i, o := range f.List {
			f.List[i].Kind, f.List[i].Riders = kind[o.Kind], 0
			for old, now := range rider {
				f.List[i].Riders |= o.Riders >> old & 1 << now
			}
		}
	})
}

// P11.7, P11 of the document: if riders are numbered otherwise, partners with partners, only their numbers change; and kinds make no difference.
func TestOtherNumbers(t *testing.T) {
	r := rand.New(rand.NewSource(1116))
	for range 300 {
		f := large(r)
		number := partners(r, f.Riders)
		other := numbered(f, number, r.Perm(len(f.Rules)))
		a, b := ask(f), ask(other)
		want := a
		for old, now := range number {
			want.fines[now], want.pays[now] = a.fines[old], a.pays[old]
		}
		if b != want {
			t.Errorf("%+v\n%+v\n%+v\n%+v", f, other, a, b)
		}
		x := truly(r, f)
		y := truth{hours: x.hours}
		for _, rider := range x.riders {
			y.riders = append(y.riders, number[rider])
		}
		if one, two := exactly(t, f, x), exactly(t, other, y); !slices.Equal(one, two) {
			t.Errorf("%+v %+v %+v: %v %v", f, other, x, one, two)
		}
		rider := r.Intn(f.Riders)
		most := r.Intn(a.fines[rider].result.Hi + 1)
		if one, two := resultOf(fine.Withdraw(f, rider, most)), resultOf(fine.Withdraw(other, number[rider], most)); one != two {
			t.Errorf("%+v %+v %v %v: %v %v", f, other, rider, most, one, two)
		}
	}
}

// P11.7: offences of different kinds have nothing to do with one another: what is told of all is told of each kind alone, and added.
func TestKindsAlone(t *testing.T) {
	r := rand.New(rand.NewSource(1117))
	found := 0
	for range 300 {
		f := large(r)
		a := ask(f)
		var all, fines, pays api.Span
		rider := r.Intn(f.Riders)
		add := func(to *api.Span, s outcome[api.Span]) { *to = span(to.Lo+s.result.Lo, to.Hi+s.result.Hi) }
		for kind := range f.Rules {
			var numbers []int
			alone := only(f, func(number int, o api.Offence) bool {
				if o.Kind == kind {
					numbers = append(numbers, number)
				}
				return o.Kind == kind
			})
			b := ask(alone)
			for i, number := range numbers {
				if a.costs[number] != b.costs[i] {
					t.Errorf("%+v %v %v: %v %v", f, kind, number, a.costs, b.costs)
				}
			}
			add(&all, b.total)
			add(&fines, b.fines[rider])
			add(&pays, b.pays[rider])
			if len(numbers) > 0 && len(numbers) < len(f.List) {
				found++
			}
		}
		if a.total != so(all) || a.fines[rider] != so(fines) || a.pays[rider] != so(pays) {
			t.Errorf("%+v: %+v, not %v %v %v", f, a, all, fines, pays)
		}
	}
	if found < 100 {
		t.Error("too few have several kinds for a test", found)
	}
}

// P11.7: if all is so many hours later nothing costs more, or less.
func TestLater(t *testing.T) {
	r := rand.New(rand.NewSource(1118))
	for range 100 {
		f := randomFines(r, api.FineList, 20)
		later := changed(f, func(f *api.Fines) {
			hours := 1 + r.Intn(100)
			for i := range f.List {
				h := &f.List[i].Hours
				*h = span(h.Lo+hours, h.Hi+hours)
			}
		})
		if a, b := ask(f), ask(later); a != b {
			t.Errorf("%+v %+v: %+v %+v", f, later, a, b)
		}
	}
}

// P11 of the document: the same fines are told the same, however often it is asked.
func TestAskedAgain(t *testing.T) {
	r := rand.New(rand.NewSource(1119))
	for range 60 {
		f := large(r)
		a := ask(f)
		for range 3 {
			if b := ask(f); a != b {
				t.Errorf("%+v: %+v %+v", f, a, b)
			}
		}
	}
}

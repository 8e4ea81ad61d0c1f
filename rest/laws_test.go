package rest_test

import (
	"math/rand"
	"slices"
	"testing"

	"lapworks/api"
	"lapworks/rest"
)

// right tests that a plan that is told is for all hours, that somebody rides in each of them, and that it breaks no rule.
func right(t *testing.T, r api.Rest, plan []int) {
	t.Helper()
	if hour, rule, e := rest.Check(r, plan); e != api.ErrNone {
		t.Errorf("Check %+v %v: %v %v %v", r, plan, hour, rule, e)
	}
	if len(plan) != r.Hours || ridden(plan, 0)+ridden(plan, 1) != r.Hours {
		t.Error(r, plan)
	}
}

// randomPlan returns a right plan of a rest for which there is one, found by riding at random.
func randomPlan(r *rand.Rand, one api.Rest) []int {
	var plan []int
	was := one
	for hour := range one.Hours {
		who := r.Intn(2)
		// If this rider cannot ride then the other one has to.
		if n, _ := rest.Count(with(was, 1-who, hour)); n == 0 {
			who = 1 - who
		}
		was = with(was, 1-who, hour)
		plan = append(plan, who)
	}
	return plan
}

// P6.9, P7 of the document: plans that are told, and others, are right, and within all that is told; no other has fewer changes, or is fairer.
func TestPlansAreRight(t *testing.T) {
	r := rand.New(rand.NewSource(111))
	for i := range 60 {
		one := possible(r, 1+i%api.RestHours)
		fewest, calm, e := rest.Fewest(one)
		least, fair, d := rest.Even(one)
		if changes(calm) != fewest || apart(fair) != least || e != api.OK || d != api.OK {
			t.Error(one, fewest, calm, e, least, fair, d)
		}
		zero, first, _ := rest.Must(one)
		for _, plan := range [][]int{calm, fair, randomPlan(r, one), randomPlan(r, one)} {
			right(t, one, plan)
			if changes(plan) < fewest || apart(plan) < least {
				t.Error(one, plan, fewest, least)
			}
			for hour, who := range plan {
				if who == 1 && zero>>hour&1 == 1 || who == 0 && first>>hour&1 == 1 {
					t.Error("Must", one, plan, zero, first)
				}
			}
			for who := range 2 {
				if s := must(rest.Hours(one, who))(t); !inside(span(ridden(plan, who), ridden(plan, who)), s) {
					t.Error("Hours", one, plan, who, s)
				}
			}
		}
	}
}

// P6.9: of several plans with as few changes, or as fair, the first one is told: none that begins like it, but with the rider 0 where it has the rider 1, is as good.
func TestFirstOfSeveral(t *testing.T) {
	r := rand.New(rand.NewSource(112))
	for i := range 60 {
		one := possible(r, 1+i%api.RestHours)
		for _, best := range []func(api.Rest) (int, []int, api.Errno){rest.Fewest, rest.Even} {
			cost, plan, _ := best(one)
			was := one
			for hour, who := range plan {
				if who == 1 {
					if n, other, e := best(with(was, 1, hour)); e == api.OK && n <= cost {
						t.Error(one, cost, plan, other)
					}
				}
				was = with(was, 1-who, hour)
			}
		}
	}
}

// P6.9: the beginning of a right plan is right, and of one that is not up to where it breaks a rule.
func TestBeginnings(t *testing.T) {
	r := rand.New(rand.NewSource(113))
	ended := 0
	for i := range 100 {
		one := randomRest(r, i%(api.RestHours+1))
		until := must(rest.Until(one))(t)
		if until < one.Hours {
			ended++
		}
		if n := must(rest.Count(one))(t); (n > 0) != (until == one.Hours) {
			t.Error("Until", one, until, n)
		}
		for hours := range one.Hours + 1 {
			if n := must(rest.Until(shorter(one, hours)))(t); n != min(hours, until) {
				t.Error("Until", one, until, hours, n)
			}
		}
		_, plan, _ := rest.Fewest(shorter(one, until))
		for hours := range until + 1 {
			right(t, shorter(one, hours), plan[:hours])
		}
	}
	if ended < 20 {
		t.Error("too few have no plan for a test", ended)
	}
}

// easier returns a rest in which something is easier, if it can be.
func easier(r *rand.Rand, one api.Rest) api.Rest {
	return changed(one, func(one *api.Rest) {
		limits := &one.Riders[r.Intn(2)]
		switch r.Intn(4) {
		case 0:
			limits.Out &= r.Intn(1 << one.Hours)
		case 1:
			limits.Total = min(limits.Total+1, api.RestHours)
		case 2:
			limits.Run = min(limits.Run+1, api.RestHours)
		case 3:
			limits.Off = max(limits.Off-1, 0)
		}
	})
}

// P6.9: with an hour more that somebody can ride, more hours allowed, or fewer off, each plan that was right is, and no more changes are needed.
func TestEasier(t *testing.T) {
	r := rand.New(rand.NewSource(114))
	more := 0
	for i := range 300 {
		one := possible(r, 1+i%9)
		other := easier(r, one)
		for _, plan := range rights(one, one.Hours) {
			right(t, other, plan)
		}
		a, b := ask(one), ask(other)
		if b.count.result < a.count.result || b.fewest.number > a.fewest.number || b.even.number > a.even.number || b.fewest.e != api.OK {
			t.Errorf("%+v %+v: %+v %+v", one, other, a, b)
		}
		for who := range 2 {
			if !inside(a.hours[who].result, b.hours[who].result) || b.must.result[who]&^a.must.result[who] != 0 {
				t.Errorf("%+v %+v: %+v %+v", one, other, a, b)
			}
		}
		if b.count.result > a.count.result {
			more++
		}
	}
	if more < 60 {
		t.Error("too few have more plans for a test", more)
	}
}

// P6.9: hours for which there is a plan are no fewer if something is easier.
func TestEasierUntil(t *testing.T) {
	r := rand.New(rand.NewSource(115))
	for range 200 {
		one := randomRest(r, api.RestHours)
		if a, b := must(rest.Until(one))(t), must(rest.Until(easier(r, one)))(t); b < a {
			t.Error(one, a, b)
		}
	}
}

// turned returns a plan with both riders in each other's place.
func turned(plan []int) []int {
	other := slices.Clone(plan)
	for i, who := range plan {
		other[i] = 1 - who
	}
	return other
}

// P6.9, P11 of the document: if both riders change places plans are the same but for their numbers.
func TestPlacesExchanged(t *testing.T) {
	r := rand.New(rand.NewSource(116))
	for i := range 200 {
		one := randomRest(r, i%(api.RestHours+1))
		other := exchanged(one)
		a, b := ask(one), ask(other)
		if a.count != b.count || a.until != b.until || a.fewest.number != b.fewest.number || a.fewest.e != b.fewest.e || a.even.number != b.even.number || a.even.e != b.even.e || a.free.e != b.free.e {
			t.Errorf("%+v: %+v %+v", one, a, b)
		}
		if a.hours[0] != b.hours[1] || a.hours[1] != b.hours[0] || a.must.result != [2]int{b.must.result[1], b.must.result[0]} || a.must.e != b.must.e {
			t.Errorf("%+v: %+v %+v", one, a, b)
		}
		plan := make([]int, one.Hours)
		for hour := range plan {
			plan[hour] = r.Intn(2)
		}
		if a, b := pairOf(rest.Check(one, plan)), pairOf(rest.Check(other, turned(plan))); a != b {
			t.Error("Check", one, plan, a, b)
		}
	}
}

// P6.5: a rider has to ride in an hour just if there is no plan without; and rides the least, and the greatest, number of hours by some plan.
func TestMustAndHours(t *testing.T) {
	r := rand.New(rand.NewSource(117))
	found := 0
	for i := range 50 {
		one := possible(r, i%(api.RestHours+1))
		a := ask(one)
		for who := range 2 {
			for hour := range one.Hours {
				has := a.must.result[who]>>hour&1 == 1
				if n := must(rest.Count(with(one, who, hour)))(t); (n == 0) != has {
					t.Error("Must", one, a.must, who, hour, n)
				}
				if has && one.Riders[1-who].Out>>hour&1 == 0 {
					found++
				}
			}
			s := a.hours[who].result
			if s.Lo+a.hours[1-who].result.Hi != one.Hours {
				t.Error("Hours", one, a.hours)
			}
			total := func(n int) api.Rest { return changed(one, func(r *api.Rest) { r.Riders[who].Total = n }) }
			if n := must(rest.Count(total(s.Lo)))(t); n == 0 {
				t.Error("Hours", one, who, s)
			}
			if s.Lo > 0 {
				refusedHours(t, total(s.Lo-1), who, api.ErrNone)
			}
		}
	}
	if found < 20 {
		t.Error("too few have to ride without the other one's Out for a test", found)
	}
}

// P6.7: what is told to be free makes a plan right, and nothing that comes before it does.
func TestFreed(t *testing.T) {
	r := rand.New(rand.NewSource(118))
	found := 0
	for i := range 300 {
		one := randomRest(r, 1+i%api.RestHours)
		freed := pairOf(rest.Free(one))
		free, e := freed.result, freed.e
		if e == api.ErrRefuse {
			right(t, one, must(planOf(one))(t))
			continue
		}
		if e == api.OK {
			found++
			right(t, without(one, free[0], free[1]), must(planOf(without(one, free[0], free[1])))(t))
		}
		for who := range 2 {
			for hour := range one.Hours {
				at := [2]int{who, hour}
				if e == api.OK && slices.Compare(at[:], free[:]) >= 0 {
					continue
				}
				if n := must(rest.Count(without(one, who, hour)))(t); n > 0 {
					t.Error("Free", one, free, e, at)
				}
			}
		}
	}
	if found < 30 {
		t.Error("too few can be freed for a test", found)
	}
}

// planOf returns the plan with the fewest changes alone.
func planOf(r api.Rest) ([]int, api.Errno) {
	_, plan, e := rest.Fewest(r)
	return plan, e
}

// P11 of the document: the same rest is told the same, however often it is asked.
func TestAskedAgain(t *testing.T) {
	r := rand.New(rand.NewSource(119))
	for i := range 60 {
		one := randomRest(r, i%(api.RestHours+1))
		a := ask(one)
		for range 3 {
			if b := ask(one); a != b {
				t.Errorf("%+v: %+v %+v", one, a, b)
			}
		}
	}
}

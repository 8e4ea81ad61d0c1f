package relay_test

import (
	"math/bits"
	"math/rand"
	"testing"

	"lapworks/api"
	"lapworks/relay"
)

// P2.7, P2 of the document, P4 of the document: what was ridden, as it was written, is within what is told.
func TestWhatIsTrue(t *testing.T) {
	r := rand.New(rand.NewSource(31))
	for i := range 200 {
		o, ridden := randomTruth(r, 1+i%5, r.Intn(400), 1+r.Intn(40))
		for stint, s := range ridden {
			contains(t, o, relay.On, stint, s[0])
			contains(t, o, relay.Off, stint, s[1])
			contains(t, o, relay.Length, stint, s[1]-s[0])
		}
		for minute := range api.RelayMinutes + 1 {
			if _, e := relay.Nobody(o, minute, minute); e == api.OK && ridden.somebody(minute) {
				t.Error(o, ridden, minute, "somebody is there")
			}
			if _, e := relay.Gap(o, minute, minute); e == api.ErrNone && !ridden.somebody(minute) {
				t.Error(o, ridden, minute, "nobody is there")
			}
		}
		for next := 1; next < len(ridden); next++ {
			handed := ridden[next][0] <= ridden[next-1][1]
			if n := must(relay.Handed(o, next-1))(t); n == api.RelayNever && handed || n == api.RelayAlways && !handed {
				t.Error(o, ridden, next, n)
			}
		}
	}
}

// contains tests that what is told of a stint contains a number.
func contains(t *testing.T, r api.Relays, f func(api.Relays, int) (api.Span, api.Errno), stint, n int) {
	t.Helper()
	if s, e := f(r, stint); e != api.OK || !within(span(n, n), s) {
		t.Error(r, stint, s, e, n)
	}
}

// P2.7: at most two entries prove a clash, and without those that are wrong there is none.
func TestProof(t *testing.T) {
	r := rand.New(rand.NewSource(32))
	many := 0
	for range 300 {
		o := randomRelays(r, 5, r.Intn(300), 1+r.Intn(15), 1+r.Intn(12))
		if canBe(o, every(o)) {
			continue
		}
		clash, wrong := must(relay.Clash(o))(t), must(relay.Wrong(o))(t)
		if n := bits.OnesCount(uint(clash)); n < 1 || n > 2 || canBe(o, clash) {
			t.Error("Clash", o, clash)
		}
		if !canBe(o, every(o)&^wrong) || wrong&clash == 0 {
			t.Error("Wrong", o, wrong, clash)
		}
		for number := range 4 * len(o.Stints) {
			// Of the fewest each one is needed.
			if wrong>>number&1 == 1 && canBe(o, every(o)&^wrong|1<<number) {
				t.Error("Wrong", o, wrong, number)
			}
		}
		if bits.OnesCount(uint(wrong)) > 3 {
			many++
		}
	}
	if many < 30 {
		t.Error("too few relays with many wrong entries for a test", many)
	}
}

// P2.7: with an entry more exact nothing is told less exactly.
func TestMoreExact(t *testing.T) {
	r := rand.New(rand.NewSource(33))
	sharper := 0
	for i := range 300 {
		o, ridden := randomTruth(r, 1+i%4, 20, 12)
		number := r.Intn(4 * len(ridden))
		minute := ridden[number/4][number%4/2]
		was := *entryOf(o, number)
		exact := with(o, number, span(minute-r.Intn(minute-was.Lo+1), minute+r.Intn(was.Hi-minute+1)))
		f, g := ask(t, o, behind(o)), ask(t, exact, behind(o))
		if !noLess(f, g) {
			t.Error(o, exact, f, g)
		}
		if !f.same(g) {
			sharper++
		}
	}
	if sharper < 50 {
		t.Error("too few entries tell anything for a test", sharper)
	}
}

// noLess returns whether the second one tells nothing less exactly than the first one.
func noLess(f, g told) bool {
	for i := range f.on {
		if !within(g.on[i], f.on[i]) || !within(g.off[i], f.off[i]) || !within(g.length[i], f.length[i]) {
			return false
		}
	}
	for i := range f.handed {
		if f.handed[i] != api.RelayPerhaps && f.handed[i] != g.handed[i] {
			return false
		}
	}
	return subset(f.nobody, g.nobody) && subset(g.gap, f.gap)
}

// subset returns whether all of one list is in another one.
func subset(list, of []int) bool {
	in := map[int]bool{}
	for _, n := range of {
		in[n] = true
	}
	for _, n := range list {
		if !in[n] {
			return false
		}
	}
	return true
}

// changedPlaces returns relays whose judges have changed places.
func changedPlaces(r api.Relays) api.Relays {
	r = copied(r)
	for i, s := range r.Stints {
		r.Stints[i] = stint(s.Rider, s.On[1], s.On[0], s.Off[1], s.Off[0])
	}
	return r
}

// renumbered returns the set of the entries of the other judge.
func renumbered(entries int) int {
	return entries&0x55555<<1 | entries>>1&0x55555
}

// P2.7, P11 of the document: if both judges change places only the numbers of entries change.
func TestJudgesChangePlaces(t *testing.T) {
	r := rand.New(rand.NewSource(34))
	for i := range 200 {
		o := randomRelays(r, 1+i%4, 20, 8, i%3)
		c := changedPlaces(o)
		if canBe(o, every(o)) {
			if f, g := ask(t, o, behind(o)), ask(t, c, behind(o)); !f.same(g) {
				t.Error(o, f, g)
			}
			continue
		}
		clash, wrong := must(relay.Clash(o))(t), must(relay.Wrong(o))(t)
		other, others := must(relay.Clash(c))(t), must(relay.Wrong(c))(t)
		if bits.OnesCount(uint(clash)) != bits.OnesCount(uint(other)) || canBe(o, renumbered(other)) {
			t.Error("Clash", o, clash, other)
		}
		if bits.OnesCount(uint(wrong)) != bits.OnesCount(uint(others)) || !canBe(o, every(o)&^renumbered(others)) {
			t.Error("Wrong", o, wrong, others)
		}
	}
}

// P2.7: if all is so many minutes later, so is what is told. What is wrong is far from both ends here, so that it stays so.
func TestLater(t *testing.T) {
	r := rand.New(rand.NewSource(35))
	for i := range 200 {
		o := randomRelays(r, 1+i%4, 150, 8, i%3)
		later := r.Intn(150)
		s := shifted(o, later)
		if !canBe(o, every(o)) {
			if a, b := must(relay.Clash(o))(t), must(relay.Clash(s))(t); a != b {
				t.Error("Clash", o, a, b)
			}
			if a, b := must(relay.Wrong(o))(t), must(relay.Wrong(s))(t); a != b {
				t.Error("Wrong", o, a, b)
			}
			continue
		}
		f, g := ask(t, o, behind(o)), ask(t, s, behind(s))
		for stint := range f.on {
			f.on[stint] = span(f.on[stint].Lo+later, f.on[stint].Hi+later)
			f.off[stint] = span(f.off[stint].Lo+later, f.off[stint].Hi+later)
		}
		f.nobody, f.gap = delayed(f.nobody, later), delayed(f.gap, later)
		if !f.same(g) {
			t.Error(o, later, f, g)
		}
	}
}

// delayed returns minutes so many later. Before all of them nobody is there either.
func delayed(list []int, minutes int) []int {
	var all []int
	for minute := range minutes {
		all = append(all, minute)
	}
	for _, m := range list {
		all = append(all, m+minutes)
	}
	return all
}

// P11 of the document: the same relays are told the same, however often they are asked.
func TestAskedAgain(t *testing.T) {
	r := rand.New(rand.NewSource(36))
	for range 60 {
		o := randomRelays(r, 5, 50, 5, 4)
		if canBe(o, every(o)) {
			continue
		}
		clash, wrong := must(relay.Clash(o))(t), must(relay.Wrong(o))(t)
		for range 3 {
			if n, e := relay.Clash(o); n != clash || e != api.OK {
				t.Error("Clash", o, n, e, clash)
			}
			if n, e := relay.Wrong(o); n != wrong || e != api.OK {
				t.Error("Wrong", o, n, e, wrong)
			}
		}
	}
}

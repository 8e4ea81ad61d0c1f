package relay_test

import (
	"math/bits"
	"math/rand"
	"slices"
	"testing"

	"lapworks/api"
	"lapworks/relay"
)

// What the chapter defines is done here as it stands there: all truths are written down, one by one.

// truth is the minutes in which each stint begins, and ends.
type truth [][2]int

// fits returns whether the stints of a truth, which can be fewer, can be so by the rules, and by the entries.
func (t truth) fits(r api.Relays) bool {
	for i, s := range t {
		if s[0] < 0 || s[1] > api.RelayMinutes || s[1] <= s[0] || i > 0 && s[0] <= t[i-1][0] {
			return false
		}
		for j := i - 1; j >= 0; j-- {
			if r.Stints[j].Rider == r.Stints[i].Rider {
				if s[0] < t[j][1]+r.Rest {
					return false
				}
				break
			}
		}
		for judge := range 2 {
			on, off := r.Stints[i].On[judge], r.Stints[i].Off[judge]
			if s[0] < on.Lo || s[0] > on.Hi || s[1] < off.Lo || s[1] > off.Hi {
				return false
			}
		}
	}
	return true
}

// somebody returns whether a rider is on the track in a minute.
func (t truth) somebody(minute int) bool {
	return slices.ContainsFunc(t, func(s [2]int) bool { return s[0] <= minute && minute < s[1] })
}

// truthsOf returns all truths of relays.
func truthsOf(r api.Relays) []truth {
	truths := []truth{{}}
	for _, s := range r.Stints {
		var longer []truth
		for _, t := range truths {
			for on := s.On[0].Lo; on <= s.On[0].Hi; on++ {
				for off := s.Off[0].Lo; off <= s.Off[0].Hi; off++ {
					if l := append(slices.Clone(t), [2]int{on, off}); l.fits(r) {
						longer = append(longer, l)
					}
				}
			}
		}
		truths = longer
	}
	return truths
}

// spanOf returns the span of the numbers of truths, and whether all that is in it is one of these.
func spanOf(truths []truth, number func(truth) int) (s api.Span, whole bool) {
	found := map[int]bool{}
	s = span(number(truths[0]), number(truths[0]))
	for _, t := range truths {
		n := number(t)
		found[n] = true
		s = span(min(s.Lo, n), max(s.Hi, n))
	}
	return s, len(found) == s.Hi-s.Lo+1
}

// expected returns all that has to be told of truths, of minutes up to one.
func expected(t *testing.T, truths []truth, last int) told {
	t.Helper()
	var a told
	add := func(list *[]api.Span, number func(truth) int) {
		s, whole := spanOf(truths, number)
		if !whole {
			t.Error("not all of a span is of truths", truths[0], s)
		}
		*list = append(*list, s)
	}
	for i := range truths[0] {
		add(&a.on, func(t truth) int { return t[i][0] })
		add(&a.off, func(t truth) int { return t[i][1] })
		add(&a.length, func(t truth) int { return t[i][1] - t[i][0] })
		if i > 0 {
			a.handed = append(a.handed, whether(truths, func(t truth) bool { return t[i][0] <= t[i-1][1] }))
		}
	}
	for minute := range last + 1 {
		switch whether(truths, func(t truth) bool { return !t.somebody(minute) }) {
		case api.RelayAlways:
			a.nobody = append(a.nobody, minute)
			a.gap = append(a.gap, minute)
		case api.RelayPerhaps:
			a.gap = append(a.gap, minute)
		}
	}
	return a
}

// whether returns whether something is so in no truth, in some, or in all.
func whether(truths []truth, is func(truth) bool) int {
	in := 0
	for _, t := range truths {
		if is(t) {
			in++
		}
	}
	switch in {
	case 0:
		return api.RelayNever
	case len(truths):
		return api.RelayAlways
	}
	return api.RelayPerhaps
}

// canBe returns whether there is a truth if nothing was written but a set of entries: whether, if everything is as early as it can be, nothing is too late.
func canBe(r api.Relays, entries int) bool {
	free, earliest := [2]int{}, 0
	for i, s := range r.Stints {
		var limits [2]api.Span
		for side := range limits {
			limits[side] = whole()
			for judge := range 2 {
				number := 4*i + 2*side + judge
				if entries>>number&1 == 1 {
					e := *entryOf(r, number)
					limits[side] = span(max(limits[side].Lo, e.Lo), min(limits[side].Hi, e.Hi))
				}
			}
		}
		on := max(limits[0].Lo, earliest, free[s.Rider])
		off := max(limits[1].Lo, on+1)
		if on > limits[0].Hi || off > limits[1].Hi {
			return false
		}
		earliest, free[s.Rider] = on+1, off+r.Rest
	}
	return true
}

// fewest returns the set of the fewest entries of which something is so, of several the least number.
func fewest(entries int, is func(set int) bool) int {
	found := -1
	for set := range 1 << entries {
		if (found < 0 || bits.OnesCount(uint(set)) < bits.OnesCount(uint(found))) && is(set) {
			found = set
		}
	}
	return found
}

// blamed returns the fewest entries that clash, and the fewest that are wrong.
func blamed(r api.Relays) (clash, wrong int) {
	entries := 4 * len(r.Stints)
	all := 1<<entries - 1
	clash = fewest(entries, func(set int) bool { return !canBe(r, set) })
	wrong = fewest(entries, func(set int) bool { return canBe(r, all&^set) })
	return clash, wrong
}

// checked tests all functions of relays against their truths, and returns whether there is one.
func checked(t *testing.T, r api.Relays) bool {
	t.Helper()
	truths := truthsOf(r)
	if len(truths) == 0 {
		clashes(t, r)
		return false
	}
	if a, want := ask(t, r, behind(r)), expected(t, truths, behind(r)); !a.same(want) {
		t.Error(r, a, want)
	}
	unblamed(t, r, api.ErrNone)
	return true
}

// clashes tests all functions of relays without a truth.
func clashes(t *testing.T, r api.Relays) {
	t.Helper()
	for i := range r.Stints {
		refused(t, r, i, 0, api.RelayMinutes, api.ErrClash)
	}
	clash, wrong := blamed(r)
	if n, e := relay.Clash(r); n != clash || e != api.OK {
		t.Error("Clash", r, n, e, clash)
	}
	if n, e := relay.Wrong(r); n != wrong || e != api.OK {
		t.Error("Wrong", r, n, e, wrong)
	}
}

// P2.1 to P2.5, P2 of the document: relays of each number of stints, with entries that are wrong and without.
func TestAgainstTruths(t *testing.T) {
	r := rand.New(rand.NewSource(21))
	so, not := 0, 0
	for i := range 900 {
		stints := 1 + i%3
		o := randomRelays(r, stints, 3, 4, r.Intn(3))
		if checked(t, o) {
			so++
		} else {
			not++
		}
	}
	if so < 200 || not < 200 {
		t.Error("too few of a kind for a test", so, not)
	}
}

// P2.1 to P2.5, R7: as many stints as there can be.
func TestManyStints(t *testing.T) {
	r := rand.New(rand.NewSource(22))
	for i := range 40 {
		checked(t, randomRelays(r, 4+i%2, 2, 2, 0))
	}
	for i := range 12 {
		checked(t, randomRelays(r, 4, 2, 3, 2+i%4))
	}
	for i := range 6 {
		checked(t, randomRelays(r, 5, 2, 3, 3+2*i))
	}
}

// P2.1 to P2.5: at both ends of all minutes.
func TestAtTheEnds(t *testing.T) {
	r := rand.New(rand.NewSource(23))
	for i := range 150 {
		stints := 1 + i%2
		checked(t, randomRelays(r, stints, 0, 4, r.Intn(2)))
		o := randomRelays(r, stints, 0, 4, r.Intn(2))
		checked(t, shifted(o, api.RelayMinutes-latest(o)))
	}
}

// shifted returns relays that are so many minutes later.
func shifted(r api.Relays, minutes int) api.Relays {
	r = copied(r)
	for number := range 4 * len(r.Stints) {
		e := entryOf(r, number)
		*e = span(e.Lo+minutes, e.Hi+minutes)
	}
	return r
}

// What the tests find with the earliest minutes is what they find with all truths.
func TestReference(t *testing.T) {
	r := rand.New(rand.NewSource(24))
	for i := range 300 {
		o := randomRelays(r, 1+i%3, 0, 4, r.Intn(4))
		if canBe(o, 1<<(4*len(o.Stints))-1) != (len(truthsOf(o)) > 0) {
			t.Error(o)
		}
	}
}

// P2.1, P2.2: entries so wide that truths cannot be written down one by one. A minute is one of a stint just if the stint can be seen in it.
func TestWideEntries(t *testing.T) {
	r := rand.New(rand.NewSource(25))
	for i := range 60 {
		o, _ := randomTruth(r, 1+i%5, 100, 30)
		for stint := range o.Stints {
			on, off := spanSeen(o, 4*stint), spanSeen(o, 4*stint+2)
			if s, e := relay.On(o, stint); s != on || e != api.OK {
				t.Error("On", o, stint, s, e, on)
			}
			if s, e := relay.Off(o, stint); s != off || e != api.OK {
				t.Error("Off", o, stint, s, e, off)
			}
			if s, e := relay.Length(o, stint); s != apart(o, 4*stint, 4*stint+2) || e != api.OK {
				t.Error("Length", o, stint, s, e)
			}
			if stint > 0 {
				both := apart(o, 4*stint, 4*stint-2)
				want := api.RelayPerhaps
				if both.Lo >= 0 {
					want = api.RelayAlways
				} else if both.Hi < 0 {
					want = api.RelayNever
				}
				if n, e := relay.Handed(o, stint-1); n != want || e != api.OK {
					t.Error("Handed", o, stint, n, e, want)
				}
			}
		}
	}
}

// every returns the set of all entries.
func every(r api.Relays) int { return 1<<(4*len(r.Stints)) - 1 }

// exactly returns relays of which an entry is a single minute, if it can be; not whether it can be so.
func exactly(r api.Relays, number, minute int) (api.Relays, bool) {
	s := *entryOf(r, number)
	return with(r, number, span(minute, minute)), s.Lo <= minute && minute <= s.Hi
}

// spanSeen returns the span of the minutes that an entry can have in truths.
func spanSeen(r api.Relays, number int) api.Span {
	s, found := api.Span{}, false
	for minute := range api.RelayMinutes + 1 {
		o, ok := exactly(r, number, minute)
		if !ok || !canBe(o, every(o)) {
			continue
		}
		if !found {
			s, found = span(minute, minute), true
		}
		s.Hi = minute
	}
	return s
}

// apart returns the span of the minutes from one entry to another one in truths.
func apart(r api.Relays, from, to int) api.Span {
	s, found := api.Span{}, false
	first, last := spanSeen(r, from), spanSeen(r, to)
	for a := first.Lo; a <= first.Hi; a++ {
		for b := last.Lo; b <= last.Hi; b++ {
			o, ok := exactly(r, from, a)
			o, well := exactly(o, to, b)
			if !ok || !well || !canBe(o, every(o)) {
				continue
			}
			if !found {
				s, found = span(b-a, b-a), true
			}
			s = span(min(s.Lo, b-a), max(s.Hi, b-a))
		}
	}
	return s
}

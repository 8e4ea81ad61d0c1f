package field_test

import (
	"math"
	"math/bits"
	"math/rand"
	"slices"
	"testing"

	"lapworks/api"
	"lapworks/field"
)

// What the chapter defines is done here as it stands there: all ways in which pairs can ride are written down, one by one, and then it is looked which sights are right.

// way is how far each pair has ridden, at each moment.
type way [][]int

// gap returns by how much a pair is ahead of another one.
func (w way) gap(moment, pair, other int) int { return w[moment][pair] - w[moment][other] }

// laps returns how many laps a pair has won.
func (w way) laps(track, moment, pair int) int {
	var all []int
	for other := range w[moment] {
		if other != pair {
			all = append(all, down(w.gap(moment, pair, other), track))
		}
	}
	return slices.Min(all)
}

// wrong returns the set of the sights of a field that are wrong.
func (w way) wrong(f api.Field) int {
	set := 0
	for i, s := range f.Sights {
		if seen := modulo(w.gap(s.Moment, s.Pair, s.Other), f.Track); seen < s.Gap.Lo || seen > s.Gap.Hi {
			set |= 1 << i
		}
	}
	return set
}

// ways returns all ways in which the pairs of a field can ride.
func ways(f api.Field) []way {
	all := []way{{make([]int, f.Pairs)}}
	for _, ride := range f.Rides {
		var longer []way
		for _, w := range all {
			for _, far := range choices(ride) {
				next := slices.Clone(w[len(w)-1])
				for pair, n := range far {
					next[pair] += n
				}
				longer = append(longer, append(slices.Clone(w), next))
			}
		}
		all = longer
	}
	return all
}

// choices returns all lists of a number of each span.
func choices(spans []api.Span) [][]int {
	all := [][]int{nil}
	for _, s := range spans {
		var longer [][]int
		for _, list := range all {
			for n := s.Lo; n <= s.Hi; n++ {
				longer = append(longer, append(slices.Clone(list), n))
			}
		}
		all = longer
	}
	return all
}

// truthsOf returns those of some ways in which all sights of a field are right.
func truthsOf(f api.Field, all []way) []way {
	var truths []way
	for _, w := range all {
		if w.wrong(f) == 0 {
			truths = append(truths, w)
		}
	}
	return truths
}

// numbers returns the span of the numbers of truths.
func numbers(truths []way, number func(way) int) api.Span {
	s := span(number(truths[0]), number(truths[0]))
	for _, w := range truths {
		n := number(w)
		s = span(min(s.Lo, n), max(s.Hi, n))
	}
	return s
}

// expected returns all that has to be told of truths, but for claims.
func expected(f api.Field, truths []way) told {
	var a told
	for moment := range len(f.Rides) + 1 {
		for pair := range f.Pairs {
			a.laps = append(a.laps, numbers(truths, func(w way) int { return w.laps(f.Track, moment, pair) }))
			for other := range f.Pairs {
				if other == pair {
					continue
				}
				seen := 0
				for _, w := range truths {
					seen |= 1 << modulo(w.gap(moment, pair, other), f.Track)
				}
				a.seen = append(a.seen, seen)
				a.gaps = append(a.gaps, numbers(truths, func(w way) int { return w.gap(moment, pair, other) }))
			}
		}
	}
	return a
}

// proving returns the set of the fewest sights of which one is wrong in each of some ways; of several the least number.
func proving(sights int, against []way, f api.Field) int {
	wrong := map[int]bool{}
	for _, w := range against {
		wrong[w.wrong(f)] = true
	}
	found := -1
sets:
	for set := range 1 << sights {
		for w := range wrong {
			if set&w == 0 {
				continue sets
			}
		}
		if found < 0 || bits.OnesCount(uint(set)) < bits.OnesCount(uint(found)) {
			found = set
		}
	}
	return found
}

// those returns the ways of which something is so.
func those(all []way, is func(way) bool) []way {
	var kept []way
	for _, w := range all {
		if is(w) {
			kept = append(kept, w)
		}
	}
	return kept
}

// claimed tests all claims on laps of a field with truths, and returns how many of them sights prove to be wrong.
func claimed(t *testing.T, f api.Field, all, truths []way) (proofs int) {
	t.Helper()
	for pair := range f.Pairs {
		for laps := -3; laps <= 3; laps++ {
			when := -1
			for moment := range len(f.Rides) + 1 {
				is := func(w way) bool { return w.laps(f.Track, moment, pair) >= laps }
				right := len(those(truths, is))
				want := api.FieldPerhaps
				switch right {
				case 0:
					want = api.FieldNever
				case len(truths):
					want = api.FieldAlways
				}
				if n, e := field.Claim(f, moment, pair, laps); n != want || e != api.OK {
					t.Error("Claim", f, moment, pair, laps, n, e, want)
				}
				if want == api.FieldAlways && when < 0 {
					when = moment
				}
				sights, e := field.Proof(f, moment, pair, laps)
				if want != api.FieldNever {
					if sights != 0 || e != api.ErrNone {
						t.Error("Proof", f, moment, pair, laps, sights, e)
					}
					continue
				}
				if proof := proving(len(f.Sights), those(all, is), f); sights != proof || e != api.OK {
					t.Error("Proof", f, moment, pair, laps, sights, e, proof)
				}
				proofs += bits.OnesCount(uint(sights))
			}
			n, e := field.When(f, pair, laps)
			if when < 0 && (n != 0 || e != api.ErrNone) || when >= 0 && (n != when || e != api.OK) {
				t.Error("When", f, pair, laps, n, e, when)
			}
		}
	}
	return proofs
}

// clashing tests all functions of a field without a truth.
func clashing(t *testing.T, f api.Field, all []way) {
	t.Helper()
	if n, e := field.Clash(f); n != proving(len(f.Sights), all, f) || e != api.OK {
		t.Error("Clash", f, n, e, proving(len(f.Sights), all, f))
	}
	for moment := range len(f.Rides) + 1 {
		for pair := range f.Pairs {
			refused(t, f, moment, pair, (pair+1)%f.Pairs, 1, api.ErrClash)
		}
	}
}

// checked tests all functions of a field against all ways, and returns whether it has a truth, and how many sights prove claims of it to be wrong.
func checked(t *testing.T, f api.Field) (truth bool, proofs int) {
	t.Helper()
	all := ways(f)
	truths := truthsOf(f, all)
	if len(truths) == 0 {
		clashing(t, f, all)
		return false, 0
	}
	if a, want := ask(t, f), expected(f, truths); !a.same(want) {
		t.Error(f, a, want)
	}
	if n, e := field.Clash(f); n != 0 || e != api.ErrNone {
		t.Error("Clash", f, n, e)
	}
	return true, claimed(t, f, all, truths)
}

// widest returns how wide so many spans can be, so that there are not too many ways to write them all down.
func widest(spans int) int {
	wide := api.FieldWide
	for wide > 1 && math.Pow(float64(wide+1), float64(spans)) > 5000 {
		wide--
	}
	return wide
}

// P3.1 to P3.7, P2 and P5 of the document: fields with and without a truth, of each number of pairs, moments and sights.
func TestAgainstTruths(t *testing.T) {
	r := rand.New(rand.NewSource(41))
	so, not, proofs := 0, 0, 0
	for i := range 900 {
		pairs, moments := 2+i%2, i/2%4
		f := randomField(r, pairs, moments, r.Intn(widest(pairs*moments)+1))
		if i%3 == 0 {
			for range r.Intn(api.FieldSights + 1) {
				f = with(f, randomSight(r, f, f.Track/2))
			}
		} else {
			f, _ = observed(r, f, r.Intn(api.FieldSights+1), 3)
		}
		truth, n := checked(t, f)
		if truth {
			so++
		} else {
			not++
		}
		proofs += n
	}
	if so < 300 || not < 100 || proofs < 60 {
		t.Error("too few of a kind for a test", so, not, proofs)
	}
}

// P3.1 to P3.7, R7: as many moments as there can be, with narrow rides, and two of the widest ones.
func TestManyMoments(t *testing.T) {
	r := rand.New(rand.NewSource(42))
	for i := range 12 {
		f := randomField(r, 2, api.FieldRides, 1)
		if i%2 == 1 {
			f = randomField(r, api.FieldPairs, 2, api.FieldWide)
		}
		f, _ = observed(r, f, i%3, 2)
		checked(t, with(f, randomSight(r, f, 4)))
	}
}

// P3.6, P3.7: sights that clash, or prove something, only by three and more together.
func TestLongProofs(t *testing.T) {
	r := rand.New(rand.NewSource(43))
	long := 0
	for range 300 {
		f := randomField(r, api.FieldPairs, 2, 2)
		for range api.FieldSights {
			// Each one can be right, but if so, another way was ridden.
			f = with(f, rightSight(r, f, ridden(r, f), 1))
		}
		all := ways(f)
		if len(truthsOf(f, all)) > 0 {
			continue
		}
		n, e := field.Clash(f)
		if n != proving(len(f.Sights), all, f) || e != api.OK {
			t.Error("Clash", f, n, e)
		}
		if bits.OnesCount(uint(n)) > 2 {
			long++
		}
	}
	if long < 5 {
		t.Error("too few long proofs for a test", long)
	}
}

package field_test

import (
	"math/bits"
	"math/rand"
	"slices"
	"testing"

	"lapworks/api"
	"lapworks/field"
)

// large returns a field with as much in it as there can be, or nearly.
func large(r *rand.Rand) api.Field {
	return randomField(r, 2+r.Intn(2), 1+r.Intn(api.FieldRides), 1+r.Intn(api.FieldWide))
}

// P3.8, P2 and P5 of the document: what was ridden, if sights are right, is within what is told.
func TestWhatIsTrue(t *testing.T) {
	r := rand.New(rand.NewSource(51))
	for range 60 {
		f, w := observed(r, large(r), r.Intn(api.FieldSights+1), 4)
		if n, e := field.Clash(f); n != 0 || e != api.ErrNone {
			t.Error("Clash", f, n, e)
		}
		for moment := range w {
			for pair := range f.Pairs {
				other := (pair + 1) % f.Pairs
				gap, won := w.gap(moment, pair, other), w.laps(f.Track, moment, pair)
				if s := must(field.Gap(f, moment, pair, other))(t); !within(span(gap, gap), s) {
					t.Error("Gap", f, w, moment, pair, s)
				}
				if n := must(field.Seen(f, moment, pair, other))(t); n>>modulo(gap, f.Track)&1 == 0 {
					t.Error("Seen", f, w, moment, pair, n)
				}
				if s := must(field.Laps(f, moment, pair))(t); !within(span(won, won), s) {
					t.Error("Laps", f, w, moment, pair, s)
				}
				if n := must(field.Claim(f, moment, pair, won))(t); n == api.FieldNever {
					t.Error("Claim", f, w, moment, pair, won)
				}
				if n := must(field.Claim(f, moment, pair, won+1))(t); n == api.FieldAlways {
					t.Error("Claim", f, w, moment, pair, won+1)
				}
				if n, e := field.Proof(f, moment, pair, won); n != 0 || e != api.ErrNone {
					t.Error("Proof", f, w, moment, pair, won, n, e)
				}
				if when, e := field.When(f, pair, won); e == api.OK && w.laps(f.Track, when, pair) < won {
					t.Error("When", f, w, pair, won, when)
				}
			}
		}
	}
}

// P3.8: both ends of what is told are those of a truth: with a sight of just this gap there is still one, and the same end is told then.
func TestBothEnds(t *testing.T) {
	r := rand.New(rand.NewSource(52))
	for range 100 {
		f, _ := observed(r, large(r), r.Intn(api.FieldSights), 4)
		moment, pair := r.Intn(len(f.Rides)+1), r.Intn(f.Pairs)
		other := (pair + 1) % f.Pairs
		s := must(field.Gap(f, moment, pair, other))(t)
		for _, gap := range []int{s.Lo, s.Hi} {
			seen := modulo(gap, f.Track)
			only := must(field.Gap(with(f, sight(moment, pair, other, seen, seen)), moment, pair, other))(t)
			if only.Lo != gap && only.Hi != gap || !within(only, s) {
				t.Error(f, moment, pair, s, only)
			}
		}
		// What is not among all that is seen has no truth.
		set := must(field.Seen(f, moment, pair, other))(t)
		for seen := range f.Track {
			if _, e := field.Clash(with(f, sight(moment, pair, other, seen, seen))); (e == api.ErrNone) != (set>>seen&1 == 1) {
				t.Error(f, moment, pair, seen, set, e)
			}
		}
		if set>>f.Track != 0 {
			t.Error(f, moment, pair, set)
		}
	}
}

// sightsOf returns a field with a set of its sights alone.
func sightsOf(f api.Field, set int) api.Field {
	f = copied(f)
	kept := f.Sights[:0]
	for i, s := range f.Sights {
		if set>>i&1 == 1 {
			kept = append(kept, s)
		}
	}
	f.Sights = kept
	return f
}

// P3.8: of the sights that prove something each one is needed, and they are enough.
func TestEachIsNeeded(t *testing.T) {
	r := rand.New(rand.NewSource(53))
	clashes, proofs := 0, 0
	for range 200 {
		f := large(r)
		for range api.FieldSights {
			f = with(f, rightSight(r, f, ridden(r, f), 2))
		}
		if set, e := field.Clash(f); e == api.OK {
			clashes++
			needed(t, f, set, func(f api.Field) bool {
				_, e := field.Clash(f)
				return e == api.OK
			})
			continue
		}
		moment, pair := len(f.Rides), r.Intn(f.Pairs)
		laps := must(field.Laps(f, moment, pair))(t).Hi + 1
		proofs += bits.OnesCount(uint(must(field.Proof(f, moment, pair, laps))(t)))
		needed(t, f, must(field.Proof(f, moment, pair, laps))(t), func(f api.Field) bool {
			n, e := field.Claim(f, moment, pair, laps)
			return e == api.OK && n == api.FieldNever
		})
	}
	if clashes < 40 || proofs < 10 {
		t.Error("too few of a kind for a test", clashes, proofs)
	}
}

// needed tests that something is so with a set of sights, and not without one of them.
func needed(t *testing.T, f api.Field, set int, is func(api.Field) bool) {
	t.Helper()
	if !is(sightsOf(f, set)) {
		t.Error("not enough", f, set)
	}
	for i := range f.Sights {
		if set>>i&1 == 1 && is(sightsOf(f, set&^(1<<i))) {
			t.Error("not needed", f, set, i)
		}
	}
}

// narrowed returns a field of which one ride is narrower, but still such that a way can be ridden.
func narrowed(r *rand.Rand, f api.Field, w way) api.Field {
	f = copied(f)
	moment, pair := r.Intn(len(f.Rides)), r.Intn(f.Pairs)
	far := w[moment+1][pair] - w[moment][pair]
	s := &f.Rides[moment][pair]
	*s = span(far-r.Intn(far-s.Lo+1), far+r.Intn(s.Hi-far+1))
	return f
}

// P3.9: with a sight more, or a narrower ride, nothing is told less exactly, and what is proved stays proved.
func TestMore(t *testing.T) {
	r := rand.New(rand.NewSource(54))
	sharper := 0
	for i := range 80 {
		f, w := observed(r, large(r), r.Intn(4), 5)
		more := with(f, rightSight(r, f, w, 1))
		if i%2 == 1 {
			more = narrowed(r, f, w)
		}
		a, b := ask(t, f), ask(t, more)
		if !b.inside(a) {
			t.Error(f, more, a, b)
		}
		if !a.same(b) {
			sharper++
		}
		for pair := range f.Pairs {
			for laps := -1; laps <= 2; laps++ {
				stillProved(t, f, more, pair, laps)
			}
		}
	}
	if sharper < 25 {
		t.Error("too few sights tell anything for a test", sharper)
	}
}

// stillProved tests that what is told of a claim is told still by a field of which more is known.
func stillProved(t *testing.T, f, more api.Field, pair, laps int) {
	t.Helper()
	for moment := range len(f.Rides) + 1 {
		a, b := must(field.Claim(f, moment, pair, laps))(t), must(field.Claim(more, moment, pair, laps))(t)
		if a != api.FieldPerhaps && a != b {
			t.Error("Claim", f, more, moment, pair, laps, a, b)
		}
		_, e := field.Proof(f, moment, pair, laps)
		if _, still := field.Proof(more, moment, pair, laps); e == api.OK && still != api.OK {
			t.Error("Proof", f, more, moment, pair, laps)
		}
	}
	was, e := field.When(f, pair, laps)
	if is, still := field.When(more, pair, laps); e == api.OK && (still != api.OK || is > was) {
		t.Error("When", f, more, pair, laps, was, is, still)
	}
}

// P3.9: sights that clash still do with one more.
func TestStillClash(t *testing.T) {
	r := rand.New(rand.NewSource(55))
	found := 0
	for range 300 {
		f := large(r)
		for range 4 {
			f = with(f, rightSight(r, f, ridden(r, f), 2))
		}
		set, e := field.Clash(f)
		if e != api.OK {
			continue
		}
		found++
		more, e := field.Clash(with(f, randomSight(r, f, 3)))
		if e != api.OK || bits.OnesCount(uint(more)) > bits.OnesCount(uint(set)) {
			t.Error(f, set, more, e)
		}
	}
	if found < 40 {
		t.Error("too few fields clash for a test", found)
	}
}

// P3.9: a pair is as far ahead of another one as this is behind it; a claim of fewer laps is no less right; at most one of two pairs has won a lap.
func TestOnBothSides(t *testing.T) {
	r := rand.New(rand.NewSource(56))
	for range 60 {
		f, _ := observed(r, large(r), r.Intn(4), 5)
		for moment := range len(f.Rides) + 1 {
			won := 0
			for pair := range f.Pairs {
				other := (pair + 1) % f.Pairs
				a, b := must(field.Gap(f, moment, pair, other))(t), must(field.Gap(f, moment, other, pair))(t)
				if a != span(-b.Hi, -b.Lo) {
					t.Error("Gap", f, moment, pair, a, b)
				}
				last := api.FieldAlways
				for laps := -4; laps <= 4; laps++ {
					n := must(field.Claim(f, moment, pair, laps))(t)
					if n > last {
						t.Error("Claim", f, moment, pair, laps)
					}
					last = n
				}
				if must(field.Claim(f, moment, pair, 1))(t) == api.FieldAlways {
					won++
				}
			}
			if won > 1 {
				t.Error(f, moment, won)
			}
		}
	}
}

// renumbered returns a field whose pairs have other numbers.
func renumbered(f api.Field, number []int) api.Field {
	f = copied(f)
	for i, ride := range f.Rides {
		was := slices.Clone(ride)
		for pair, s := range was {
			f.Rides[i][number[pair]] = s
		}
	}
	for i, s := range f.Sights {
		f.Sights[i].Pair, f.Sights[i].Other = number[s.Pair], number[s.Other]
	}
	return f
}

// P3.9, P11 of the document: if pairs are numbered otherwise only their numbers change.
func TestOtherNumbers(t *testing.T) {
	r := rand.New(rand.NewSource(57))
	for i := range 80 {
		f, _ := observed(r, large(r), 3, 4)
		if i%4 == 0 {
			f = with(f, randomSight(r, f, 2))
		}
		number := r.Perm(f.Pairs)
		g := renumbered(f, number)
		clash, e := field.Clash(f)
		if n, d := field.Clash(g); n != clash || d != e {
			t.Error("Clash", f, g, clash, e, n, d)
		}
		moment, pair, laps := r.Intn(len(f.Rides)+1), r.Intn(f.Pairs), r.Intn(5)-2
		other := (pair + 1) % f.Pairs
		same(t, "Gap", result(field.Gap(f, moment, pair, other)), result(field.Gap(g, moment, number[pair], number[other])))
		same(t, "Seen", result(field.Seen(f, moment, pair, other)), result(field.Seen(g, moment, number[pair], number[other])))
		same(t, "Laps", result(field.Laps(f, moment, pair)), result(field.Laps(g, moment, number[pair])))
		same(t, "Claim", result(field.Claim(f, moment, pair, laps)), result(field.Claim(g, moment, number[pair], laps)))
		same(t, "When", result(field.When(f, pair, laps)), result(field.When(g, number[pair], laps)))
		same(t, "Proof", result(field.Proof(f, moment, pair, laps)), result(field.Proof(g, moment, number[pair], laps)))
	}
}

// P3.9, P11 of the document: the order of sights makes no difference but to theirs.
func TestOrderOfSights(t *testing.T) {
	r := rand.New(rand.NewSource(58))
	for i := range 80 {
		f, _ := observed(r, large(r), 4, 4)
		if i%4 == 0 {
			f = with(f, randomSight(r, f, 2))
		}
		g := copied(f)
		r.Shuffle(len(g.Sights), func(i, j int) { g.Sights[i], g.Sights[j] = g.Sights[j], g.Sights[i] })
		a, e := field.Clash(f)
		if b, d := field.Clash(g); bits.OnesCount(uint(a)) != bits.OnesCount(uint(b)) || d != e {
			t.Error("Clash", f, g, a, e, b, d)
		}
		if e == api.OK {
			continue
		}
		if a, b := ask(t, f), ask(t, g); !a.same(b) {
			t.Error(f, g, a, b)
		}
		pair, laps := r.Intn(f.Pairs), r.Intn(5)-2
		same(t, "When", result(field.When(f, pair, laps)), result(field.When(g, pair, laps)))
		a, e = field.Proof(f, len(f.Rides), pair, laps)
		if b, d := field.Proof(g, len(f.Rides), pair, laps); bits.OnesCount(uint(a)) != bits.OnesCount(uint(b)) || d != e {
			t.Error("Proof", f, g, a, e, b, d)
		}
	}
}

// outcome is a result with its error.
type outcome[T any] struct {
	result T
	e      api.Errno
}

// result returns both as one thing.
func result[T any](r T, e api.Errno) outcome[T] { return outcome[T]{r, e} }

// same tests that two results are the same.
func same[T comparable](t *testing.T, name string, a, b outcome[T]) {
	t.Helper()
	if a.result != b.result || a.e != b.e {
		t.Error(name, a, b)
	}
}

// P11 of the document: the same field is told the same, however often it is asked.
func TestAskedAgain(t *testing.T) {
	r := rand.New(rand.NewSource(59))
	for range 30 {
		f, _ := observed(r, large(r), 4, 4)
		a := ask(t, f)
		if b := ask(t, f); !a.same(b) {
			t.Error(f, a, b)
		}
		moment, pair := r.Intn(len(f.Rides)+1), r.Intn(f.Pairs)
		n, e := field.Proof(f, moment, pair, 1)
		for range 3 {
			same(t, "Proof", result(field.Proof(f, moment, pair, 1)), result(n, e))
		}
	}
}

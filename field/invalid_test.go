package field_test

import (
	"math"
	"slices"
	"testing"

	"lapworks/api"
	"lapworks/field"
)

// odd returns numbers, many of which are out of every range.
func odd() []int { return []int{math.MinInt, -1, 0, 1, 2, 3, 4, 5, 6, 20, 21, 31, math.MaxInt} }

// refused tests that all functions of a truth refuse a field and numbers with an error, and return nothing else.
func refused(t *testing.T, f api.Field, moment, pair, other, laps int, want api.Errno) {
	t.Helper()
	refusedDuel(t, f, moment, pair, other, want)
	refusedPair(t, f, moment, pair, laps, want)
	if n, e := field.When(f, pair, laps); n != 0 || e != want {
		t.Error("When", f, pair, laps, n, e)
	}
}

// refusedDuel tests that both functions of two pairs return nothing but an error.
func refusedDuel(t *testing.T, f api.Field, moment, pair, other int, want api.Errno) {
	t.Helper()
	if s, e := field.Gap(f, moment, pair, other); s != (api.Span{}) || e != want {
		t.Error("Gap", f, moment, pair, other, s, e)
	}
	if n, e := field.Seen(f, moment, pair, other); n != 0 || e != want {
		t.Error("Seen", f, moment, pair, other, n, e)
	}
}

// refusedPair tests that all functions of a pair at a moment return nothing but an error.
func refusedPair(t *testing.T, f api.Field, moment, pair, laps int, want api.Errno) {
	t.Helper()
	if s, e := field.Laps(f, moment, pair); s != (api.Span{}) || e != want {
		t.Error("Laps", f, moment, pair, s, e)
	}
	if n, e := field.Claim(f, moment, pair, laps); n != 0 || e != want {
		t.Error("Claim", f, moment, pair, laps, n, e)
	}
	if n, e := field.Proof(f, moment, pair, laps); n != 0 || e != want {
		t.Error("Proof", f, moment, pair, laps, n, e)
	}
}

// changed returns a field with something changed in it.
func changed(f api.Field, change func(f *api.Field)) api.Field {
	f = copied(f)
	change(&f)
	return f
}

// clashed is a field without a truth.
func clashed() api.Field { return exampleF(sightA(), sightB()) }

// badSpans are spans that are valid neither as a ride, nor as a gap on a track of up to 20.
func badSpans() []api.Span {
	return []api.Span{
		span(-1, 2), span(-2, -1), span(3, 2), span(0, -1), span(28, 31), span(31, 31), span(31, 30),
		span(math.MinInt, math.MaxInt), span(math.MaxInt, math.MinInt), span(0, math.MaxInt), span(math.MinInt, 0), span(math.MaxInt, math.MaxInt), span(math.MinInt, math.MinInt),
	}
}

// badRides returns fields with rides that are not valid.
func badRides(f api.Field) []api.Field {
	var all []api.Field
	for i, ride := range f.Rides {
		for pair := range ride {
			for _, s := range append(badSpans(), span(0, 4), span(26, 30), span(0, 30)) {
				all = append(all, changed(f, func(f *api.Field) { f.Rides[i][pair] = s }))
			}
		}
		all = append(all,
			changed(f, func(f *api.Field) { f.Rides[i] = nil }),
			changed(f, func(f *api.Field) { f.Rides[i] = ride[1:] }),
			changed(f, func(f *api.Field) { f.Rides[i] = append(slices.Clone(ride), span(1, 2)) }))
	}
	return all
}

// badSights returns fields with a sight that is not valid, behind those that they have.
func badSights(f api.Field) []api.Field {
	var all []api.Field
	last := len(f.Rides)
	for _, s := range append(badSpans(), span(0, f.Track), span(f.Track, f.Track)) {
		all = append(all, with(f, api.FieldSight{Moment: last, Pair: 0, Other: 1, Gap: s}))
	}
	for _, s := range []api.FieldSight{
		sight(-1, 0, 1, 0, 1), sight(last+1, 0, 1, 0, 1), sight(math.MinInt, 0, 1, 0, 1), sight(math.MaxInt, 0, 1, 0, 1),
		sight(0, 0, 0, 0, 1), sight(0, 1, 1, 0, 1), sight(0, f.Pairs, 0, 0, 1), sight(0, 0, f.Pairs, 0, 1), sight(0, -1, 0, 0, 1), sight(0, 0, -1, 0, 1),
		sight(0, math.MaxInt, 0, 0, 1), sight(0, 0, math.MinInt, 0, 1), sight(0, -1, -2, 0, 1),
	} {
		all = append(all, with(f, s))
	}
	return all
}

// notValid returns fields that are not valid.
func notValid() []api.Field {
	all := []api.Field{{}, {Track: 10}, {Pairs: 2}, {Track: 10, Pairs: 2, Rides: make([][]api.Span, 1)}}
	for _, pairs := range []int{1, 4} {
		all = append(all, api.Field{Track: 10, Pairs: pairs}, api.Field{Track: 10, Pairs: pairs, Rides: [][]api.Span{make([]api.Span, pairs)}})
	}
	for _, f := range []api.Field{exampleF(), exampleF(sightA()), clashed(), three(), three(sight(2, 2, 0, 1, 3))} {
		for _, track := range []int{3, 21, 0, -4, -20, math.MinInt, math.MaxInt} {
			all = append(all, changed(f, func(f *api.Field) { f.Track = track }))
		}
		for _, pairs := range []int{5 - f.Pairs, 1, 0, -1, -2, 4, math.MinInt, math.MaxInt} {
			all = append(all, changed(f, func(f *api.Field) { f.Pairs = pairs }))
		}
		all = append(all,
			changed(f, func(f *api.Field) {
				for len(f.Rides) <= api.FieldRides {
					f.Rides = append(f.Rides, f.Rides[0])
				}
			}),
			changed(f, func(f *api.Field) {
				for len(f.Sights) <= api.FieldSights {
					f.Sights = append(f.Sights, sight(0, 0, 1, 0, 3))
				}
			}),
			changed(f, func(f *api.Field) { f.Rides = make([][]api.Span, 1<<12) }),
			changed(f, func(f *api.Field) { f.Sights = make([]api.FieldSight, 1<<12) }))
		all = append(append(all, badRides(f)...), badSights(f)...)
	}
	return all
}

// R1, R2: whatever else is asked for, a field that is not valid comes first.
func TestNotValid(t *testing.T) {
	for _, f := range notValid() {
		for _, n := range []int{0, 1, -1, math.MaxInt, math.MinInt} {
			refused(t, f, n, 0, 1, 1, api.ErrArg)
			refused(t, f, 0, n, n, n, api.ErrArg)
		}
		if n, e := field.Clash(f); n != 0 || e != api.ErrArg {
			t.Error("Clash", f, n, e)
		}
	}
}

// R1, R2: numbers out of their range come before a clash, and before that there is none.
func TestOutOfRange(t *testing.T) {
	for _, f := range []api.Field{exampleF(), exampleF(sightA()), clashed(), three(), {Track: 4, Pairs: 3}} {
		for _, moment := range []int{-1, len(f.Rides) + 1, math.MinInt, math.MaxInt} {
			refusedDuel(t, f, moment, 0, 1, api.ErrRange)
			refusedPair(t, f, moment, 0, 99, api.ErrRange)
		}
		for _, pair := range []int{-1, f.Pairs, math.MinInt, math.MaxInt} {
			refused(t, f, 0, pair, 0, 99, api.ErrRange)
			refusedDuel(t, f, 0, 0, pair, api.ErrRange)
			refusedDuel(t, f, 0, pair, pair, api.ErrRange)
		}
		for pair := range f.Pairs {
			refusedDuel(t, f, 0, pair, pair, api.ErrRange)
		}
	}
}

// R1: a clash comes before that there is none, and no function but Clash tells anything then.
func TestNoTruth(t *testing.T) {
	for _, f := range []api.Field{clashed(), exampleF(sight(0, 0, 1, 1, 9)), exampleF(sight(1, 0, 1, 3, 9)), exampleF(sight(3, 1, 0, 7, 9)), {Track: 4, Pairs: 2, Sights: []api.FieldSight{sight(0, 1, 0, 2, 3)}}} {
		for moment := range len(f.Rides) + 1 {
			for _, laps := range []int{0, 1, 5, -5, math.MaxInt, math.MinInt} {
				refused(t, f, moment, 0, 1, laps, api.ErrClash)
				refused(t, f, moment, 1, 0, laps, api.ErrClash)
			}
		}
		if n, e := field.Clash(f); n == 0 || e != api.OK {
			t.Error("Clash", f, n, e)
		}
	}
}

// largest is a field as large as there can be: all pairs ride as far as they can.
func largest() api.Field {
	f := api.Field{Track: api.FieldTrack, Pairs: api.FieldPairs}
	for range api.FieldRides {
		f.Rides = append(f.Rides, rides(span(27, 30), span(0, 3), span(0, 3)))
	}
	for range api.FieldSights {
		f.Sights = append(f.Sights, sight(api.FieldRides, 0, 2, 0, 19))
	}
	return f
}

// R7: the limits themselves are valid.
func TestLimits(t *testing.T) {
	f := largest()
	if s, e := field.Gap(f, 5, 0, 1); s != span(120, 150) || e != api.OK {
		t.Error("Gap", s, e)
	}
	if s, e := field.Gap(f, 5, 2, 1); s != span(-15, 15) || e != api.OK {
		t.Error("Gap", s, e)
	}
	if n, e := field.Seen(f, 5, 1, 2); n != 1<<20-1 || e != api.OK {
		t.Error("Seen", n, e)
	}
	if n, e := field.Seen(f, 1, 1, 2); n != 0b1111|7<<17 || e != api.OK {
		t.Error("Seen", n, e)
	}
	if s, e := field.Laps(f, 5, 0); s != span(6, 7) || e != api.OK {
		t.Error("Laps", s, e)
	}
	if s, e := field.Laps(f, 5, 1); s != span(-8, -6) || e != api.OK {
		t.Error("Laps", s, e)
	}
	if n, e := field.When(f, 0, 6); n != 5 || e != api.OK {
		t.Error("When", n, e)
	}
	if n, e := field.Clash(f); n != 0 || e != api.ErrNone {
		t.Error("Clash", n, e)
	}
	short := api.Field{Track: api.FieldLeast, Pairs: 2, Rides: [][]api.Span{rides(span(27, 30), span(0, 3))}, Sights: []api.FieldSight{sight(1, 1, 0, 3, 3)}}
	if s, e := field.Gap(short, 1, 0, 1); s != span(25, 29) || e != api.OK {
		t.Error("Gap", s, e)
	}
	if s, e := field.Laps(short, 1, 1); s != span(-8, -7) || e != api.OK {
		t.Error("Laps", s, e)
	}
}

// P1 of the document: no argument leads to a panic.
func TestAnyArguments(t *testing.T) {
	lists := [][][]api.Span{nil, {nil}, exampleF().Rides, three().Rides, make([][]api.Span, 5), {rides(span(math.MinInt, math.MaxInt), span(0, 0))}}
	for _, track := range odd() {
		for _, pairs := range odd() {
			for _, list := range lists {
				f := api.Field{Track: track, Pairs: pairs, Rides: list}
				for _, n := range odd() {
					f.Sights = []api.FieldSight{sight(n, pairs, n, n, n), sight(0, 0, 1, n, track)}
					field.Clash(f)
					field.Gap(f, n, 0, 1)
					f.Sights = nil
					field.Gap(f, n, n, pairs)
					field.Seen(f, n, pairs, n)
					field.Laps(f, n, n)
					field.Claim(f, n, n, n)
					field.When(f, n, n)
					field.Proof(f, n, n, n)
				}
			}
		}
	}
}

// R3: an empty list is the same as none. Without rides there is only the start.
func TestNilAndEmpty(t *testing.T) {
	for _, f := range []api.Field{{Track: 4, Pairs: 2}, {Track: 20, Pairs: 3, Rides: [][]api.Span{}, Sights: []api.FieldSight{}}} {
		if s, e := field.Gap(f, 0, 1, 0); s != span(0, 0) || e != api.OK {
			t.Error("Gap", s, e)
		}
		if n, e := field.Seen(f, 0, 0, 1); n != 1 || e != api.OK {
			t.Error("Seen", n, e)
		}
		if s, e := field.Laps(f, 0, 1); s != span(0, 0) || e != api.OK {
			t.Error("Laps", s, e)
		}
		if n, e := field.Claim(f, 0, 0, 1); n != api.FieldNever || e != api.OK {
			t.Error("Claim", n, e)
		}
		if n, e := field.Proof(f, 0, 0, 1); n != 0 || e != api.OK {
			t.Error("Proof", n, e)
		}
		if n, e := field.When(f, 0, 0); n != 0 || e != api.OK {
			t.Error("When", n, e)
		}
		if n, e := field.Clash(f); n != 0 || e != api.ErrNone {
			t.Error("Clash", n, e)
		}
	}
}

// R4: arguments are as they were, also what is behind them in the same memory.
func TestMemory(t *testing.T) {
	for _, f := range []api.Field{exampleF(sightA()), clashed(), three(sight(1, 0, 1, 0, 0), sight(1, 0, 2, 0, 3), sight(1, 2, 1, 1, 2))} {
		behind := sight(0, 1, 0, 0, 2)
		room := append(slices.Clone(f.Sights), behind)
		f.Sights = room[:len(f.Sights)]
		was := copied(f)
		for range 2 {
			field.Clash(f)
			for moment := range len(f.Rides) + 1 {
				field.Gap(f, moment, 0, 1)
				field.Seen(f, moment, 0, 1)
				field.Laps(f, moment, 0)
				field.Claim(f, moment, 0, 1)
				field.When(f, 0, 1)
				field.Proof(f, moment, 0, 1)
			}
		}
		if !equal(f, was) || room[len(room)-1] != behind {
			t.Error(f, was)
		}
	}
}

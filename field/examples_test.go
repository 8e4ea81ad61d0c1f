package field_test

import (
	"math"
	"testing"

	"lapworks/api"
	"lapworks/field"
)

// P3.1, P3.2: the chapter's examples, and those of three pairs.
func TestGaps(t *testing.T) {
	a, b := sightA(), sightB()
	for i, x := range []struct {
		f                   api.Field
		moment, pair, other int
		gap                 api.Span
		seen                int
	}{
		{exampleF(), 0, 0, 1, span(0, 0), 1},
		{exampleF(), 1, 0, 1, span(0, 2), 0b111}, {exampleF(), 2, 0, 1, span(2, 6), 0b1111100}, {exampleF(), 3, 0, 1, span(4, 10), 0b1111110001},
		{exampleF(), 1, 1, 0, span(-2, 0), 0b1100000001}, {exampleF(), 3, 1, 0, span(-10, -4), 0b1111111},
		{exampleF(a), 3, 0, 1, span(4, 7), 0b11110000}, {exampleF(a), 2, 0, 1, span(2, 3), 0b1100},
		// What is seen later tells of what was earlier.
		{exampleF(a), 1, 0, 1, span(0, 1), 0b11}, {exampleF(b), 1, 0, 1, span(2, 2), 0b100}, {exampleF(b), 2, 0, 1, span(6, 6), 1 << 6},
		{exampleF(b), 3, 1, 0, span(-10, -10), 1}, {exampleF(b), 3, 0, 1, span(10, 10), 1},
		// The other way round it is another sight of the same.
		{exampleF(sight(2, 1, 0, 7, 8)), 3, 0, 1, span(4, 7), 0b11110000}, {exampleF(sight(2, 1, 0, 4, 4)), 1, 1, 0, span(-2, -2), 1 << 8},
		{three(), 1, 0, 2, span(1, 4), 0b1111}, {three(), 1, 0, 1, span(2, 5), 0b1111}, {three(), 1, 2, 1, span(0, 2), 0b111},
		{three(), 2, 0, 1, span(4, 10), 0b1111}, {three(), 2, 2, 1, span(-1, 3), 0b1111},
		// Of a third pair something is known by what is seen of two others.
		{three(sight(1, 0, 1, 1, 1)), 1, 0, 2, span(3, 4), 0b1001}, {three(sight(1, 0, 2, 1, 1)), 1, 0, 1, span(2, 3), 0b1100},
		{three(sight(1, 0, 2, 1, 1)), 1, 2, 1, span(1, 2), 0b110}, {three(sight(2, 0, 1, 1, 1), sight(2, 0, 1, 1, 2)), 2, 0, 1, span(5, 9), 0b10},
		// There can be a hole in what is told, which a span does not show.
		{exampleF(sight(2, 0, 1, 2, 2), sight(3, 0, 1, 0, 9)), 3, 0, 1, span(4, 6), 0b1110000},
		{api.Field{Track: 4, Pairs: 2, Rides: [][]api.Span{rides(span(10, 13), span(10, 13))}, Sights: []api.FieldSight{sight(1, 1, 0, 1, 2)}}, 1, 0, 1, span(-2, 3), 0b1100},
	} {
		if s, e := field.Gap(x.f, x.moment, x.pair, x.other); s != x.gap || e != api.OK {
			t.Error("Gap", i, s, e)
		}
		if n, e := field.Seen(x.f, x.moment, x.pair, x.other); n != x.seen || e != api.OK {
			t.Error("Seen", i, n, e)
		}
	}
}

// P3.3: the chapter's examples; a pair wins a lap only if it comes up to all others.
func TestLaps(t *testing.T) {
	a, b := sightA(), sightB()
	for i, x := range []struct {
		f            api.Field
		moment, pair int
		want         api.Span
	}{
		{exampleF(), 3, 0, span(0, 1)}, {exampleF(), 3, 1, span(-1, -1)}, {exampleF(b), 3, 0, span(1, 1)}, {exampleF(a), 3, 0, span(0, 0)},
		{exampleF(), 0, 0, span(0, 0)}, {exampleF(), 0, 1, span(0, 0)}, {exampleF(), 1, 1, span(-1, 0)}, {exampleF(b), 2, 0, span(0, 0)},
		{three(), 1, 0, span(0, 1)}, {three(), 2, 0, span(1, 2)}, {three(), 2, 1, span(-3, -1)}, {three(), 2, 2, span(-2, -1)},
		{three(sight(1, 0, 2, 0, 0)), 1, 0, span(1, 1)}, {three(sight(1, 0, 1, 1, 1)), 1, 0, span(0, 1)}, {three(sight(1, 0, 1, 3, 3)), 1, 0, span(0, 0)},
	} {
		if s, e := field.Laps(x.f, x.moment, x.pair); s != x.want || e != api.OK {
			t.Error(i, s, e)
		}
	}
}

// P3.4, P3.5: the chapter's examples, and claims of any number of laps.
func TestClaims(t *testing.T) {
	a, b := sightA(), sightB()
	const never, perhaps, always = api.FieldNever, api.FieldPerhaps, api.FieldAlways
	for i, x := range []struct {
		f                  api.Field
		moment, pair, laps int
		want               int
	}{
		{exampleF(), 3, 0, 1, perhaps}, {exampleF(a), 3, 0, 1, never}, {exampleF(b), 3, 0, 1, always}, {exampleF(b), 3, 0, 2, never},
		{exampleF(b), 2, 0, 1, never}, {exampleF(), 3, 0, 0, always}, {exampleF(), 3, 1, 0, never}, {exampleF(), 3, 1, -1, always},
		{exampleF(), 1, 1, 0, perhaps}, {exampleF(), 0, 0, 0, always}, {exampleF(), 0, 1, 1, never}, {three(), 2, 0, 1, always}, {three(), 2, 0, 2, perhaps}, {three(), 2, 0, 3, never},
		{exampleF(), 3, 0, math.MaxInt, never}, {exampleF(), 3, 0, math.MinInt, always},
	} {
		if n, e := field.Claim(x.f, x.moment, x.pair, x.laps); n != x.want || e != api.OK {
			t.Error("Claim", i, n, e)
		}
	}
	for i, x := range []struct {
		f          api.Field
		pair, laps int
		want       int
		e          api.Errno
	}{
		{exampleF(b), 0, 1, 3, api.OK}, {exampleF(), 0, 1, 0, api.ErrNone}, {exampleF(a), 0, 1, 0, api.ErrNone}, {exampleF(b), 0, 2, 0, api.ErrNone},
		{exampleF(), 0, 0, 0, api.OK}, {exampleF(), 1, 0, 0, api.OK}, {exampleF(), 1, -3, 0, api.OK}, {three(), 0, 1, 2, api.OK}, {three(), 0, 2, 0, api.ErrNone},
		{three(sight(1, 0, 2, 0, 0)), 0, 1, 1, api.OK}, {exampleF(), 0, math.MaxInt, 0, api.ErrNone}, {exampleF(), 0, math.MinInt, 0, api.OK},
	} {
		if n, e := field.When(x.f, x.pair, x.laps); n != x.want || e != x.e {
			t.Error("When", i, n, e)
		}
	}
}

// P3.6: the chapter's examples; sights that prove it only together, and what needs no proof, or none but the rides.
func TestProof(t *testing.T) {
	a, b := sightA(), sightB()
	for i, x := range []struct {
		f                  api.Field
		moment, pair, laps int
		want               int
		e                  api.Errno
	}{
		{exampleF(a), 3, 0, 1, 1, api.OK}, {exampleF(), 3, 0, 1, 0, api.ErrNone}, {exampleF(b), 3, 0, 1, 0, api.ErrNone}, {exampleF(), 3, 0, 0, 0, api.ErrNone},
		// By the rides alone it is wrong.
		{exampleF(a), 3, 0, 2, 0, api.OK}, {exampleF(), 3, 1, 0, 0, api.OK}, {exampleF(a), 0, 0, 1, 0, api.OK}, {exampleF(), 3, 0, math.MaxInt, 0, api.OK},
		{exampleF(b), 3, 0, math.MinInt, 0, api.ErrNone},
		// Of two proofs the least number, and a single one rather than two, though the two are of lesser numbers.
		{exampleF(sight(1, 0, 1, 0, 0), a), 3, 0, 1, 1, api.OK}, {exampleF(sight(1, 0, 1, 0, 9), a, sight(1, 0, 1, 0, 0)), 3, 0, 1, 2, api.OK},
		{exampleF(sight(1, 0, 1, 0, 2), sight(2, 0, 1, 0, 9), sight(3, 0, 1, 1, 9)), 3, 0, 1, 4, api.OK},
		// The pair 0 has to come up to both others, who are not at the same place.
		{three(sight(1, 2, 1, 1, 2), sight(1, 0, 1, 0, 0)), 1, 0, 1, 3, api.OK}, {three(sight(1, 0, 1, 0, 0), sight(1, 0, 2, 0, 3), sight(1, 2, 1, 1, 2)), 1, 0, 1, 5, api.OK},
		{three(sight(1, 0, 1, 0, 0)), 1, 0, 1, 0, api.ErrNone}, {three(sight(1, 0, 2, 1, 3)), 1, 0, 1, 1, api.OK},
	} {
		if n, e := field.Proof(x.f, x.moment, x.pair, x.laps); n != x.want || e != x.e {
			t.Error(i, n, e)
		}
	}
}

// P3.7: the chapter's examples; sights that cannot be right alone, by two, and by three.
func TestClash(t *testing.T) {
	a, b := sightA(), sightB()
	for i, x := range []struct {
		f    api.Field
		want int
		e    api.Errno
	}{
		{exampleF(a, b), 3, api.OK}, {exampleF(), 0, api.ErrNone}, {exampleF(a), 0, api.ErrNone}, {exampleF(b), 0, api.ErrNone},
		// All are at the start together.
		{exampleF(sight(0, 0, 1, 0, 0), a, sight(0, 1, 0, 0, 3)), 0, api.ErrNone}, {exampleF(a, sight(0, 1, 0, 1, 9)), 2, api.OK},
		{exampleF(a, b, sight(1, 0, 1, 3, 9)), 4, api.OK}, {exampleF(a, sight(1, 0, 1, 0, 9), b), 5, api.OK},
		{exampleF(b, sight(2, 0, 1, 6, 6), sight(2, 0, 1, 2, 5), a), 5, api.OK}, {exampleF(sight(1, 0, 1, 1, 2), sight(1, 0, 1, 0, 1), sight(1, 1, 0, 9, 9)), 0, api.ErrNone},
		// Any two can be right.
		{three(sight(1, 0, 1, 0, 0), sight(1, 0, 2, 0, 0), sight(1, 2, 1, 1, 2)), 7, api.OK},
		{three(sight(2, 0, 1, 0, 3), sight(1, 0, 1, 0, 0), sight(2, 1, 0, 0, 3), sight(1, 0, 2, 0, 0), sight(2, 0, 2, 0, 3), sight(1, 2, 1, 1, 2)), 42, api.OK},
	} {
		if n, e := field.Clash(x.f); n != x.want || e != x.e {
			t.Error(i, n, e)
		}
	}
}

package field_test

import (
	"math/rand"
	"slices"
	"testing"

	"lapworks/api"
	"lapworks/field"
)

func span(lo, hi int) api.Span { return api.Span{Lo: lo, Hi: hi} }

// rides returns how far each pair rides from one moment to the next one.
func rides(pairs ...api.Span) []api.Span { return pairs }

func sight(moment, pair, other, lo, hi int) api.FieldSight {
	return api.FieldSight{Moment: moment, Pair: pair, Other: other, Gap: span(lo, hi)}
}

// exampleF is the field of the chapter's examples, with sights; sightA and sightB are those of the chapter.
func exampleF(sights ...api.FieldSight) api.Field {
	return api.Field{Track: 10, Pairs: 2, Rides: [][]api.Span{
		rides(span(5, 6), span(4, 5)), rides(span(5, 6), span(2, 3)), rides(span(5, 6), span(2, 3)),
	}, Sights: sights}
}

func sightA() api.FieldSight { return sight(2, 0, 1, 2, 3) }
func sightB() api.FieldSight { return sight(3, 0, 1, 0, 0) }

// three is a field of three pairs, of which the pair 0 is faster than the others, so that it comes up to them from behind.
func three(sights ...api.FieldSight) api.Field {
	return api.Field{Track: 4, Pairs: 3, Rides: [][]api.Span{
		rides(span(6, 8), span(3, 4), span(4, 5)), rides(span(7, 8), span(3, 5), span(4, 4)),
	}, Sights: sights}
}

// copied returns the same field in memory of its own.
func copied(f api.Field) api.Field {
	all := make([][]api.Span, len(f.Rides))
	for i, ride := range f.Rides {
		all[i] = slices.Clone(ride)
	}
	f.Rides, f.Sights = all, slices.Clone(f.Sights)
	return f
}

// with returns a field with a sight more.
func with(f api.Field, s api.FieldSight) api.Field {
	f = copied(f)
	f.Sights = append(f.Sights, s)
	return f
}

// equal returns whether two fields are the same.
func equal(a, b api.Field) bool {
	return a.Track == b.Track && a.Pairs == b.Pairs && slices.EqualFunc(a.Rides, b.Rides, slices.Equal) && slices.Equal(a.Sights, b.Sights)
}

// randomField returns a field without sights. One pair is often much faster than the others, so that laps are won.
func randomField(r *rand.Rand, pairs, moments, wide int) api.Field {
	f := api.Field{Track: api.FieldLeast + r.Intn(api.FieldTrack-api.FieldLeast+1), Pairs: pairs}
	fast := r.Intn(pairs + 1)
	for range moments {
		var all []api.Span
		for pair := range pairs {
			lo := r.Intn(12)
			if pair == fast {
				lo += 12
			}
			all = append(all, span(lo, lo+r.Intn(wide+1)))
		}
		f.Rides = append(f.Rides, all)
	}
	return f
}

// ridden returns a way in which the pairs of a field can ride.
func ridden(r *rand.Rand, f api.Field) way {
	w := way{make([]int, f.Pairs)}
	for _, ride := range f.Rides {
		next := slices.Clone(w[len(w)-1])
		for pair, s := range ride {
			next[pair] += s.Lo + r.Intn(s.Hi-s.Lo+1)
		}
		w = append(w, next)
	}
	return w
}

// randomSight returns a sight of a field, with a gap that is not more than so wide.
func randomSight(r *rand.Rand, f api.Field, wide int) api.FieldSight {
	pair := r.Intn(f.Pairs)
	lo := r.Intn(f.Track)
	return sight(r.Intn(len(f.Rides)+1), pair, (pair+1+r.Intn(f.Pairs-1))%f.Pairs, lo, min(f.Track-1, lo+r.Intn(wide+1)))
}

// rightSight returns a sight that is right if pairs ride in a way.
func rightSight(r *rand.Rand, f api.Field, w way, wide int) api.FieldSight {
	s := randomSight(r, f, 0)
	seen := modulo(w.gap(s.Moment, s.Pair, s.Other), f.Track)
	s.Gap = span(max(0, seen-r.Intn(wide+1)), min(f.Track-1, seen+r.Intn(wide+1)))
	return s
}

// observed returns a field with sights by which a way, which is returned too, is a truth.
func observed(r *rand.Rand, f api.Field, sights, wide int) (api.Field, way) {
	w := ridden(r, f)
	for range sights {
		f = with(f, rightSight(r, f, w, wide))
	}
	return f, w
}

// must returns what takes a result that has no error.
func must[T any](result T, e api.Errno) func(t *testing.T) T {
	return func(t *testing.T) T {
		t.Helper()
		if e != api.OK {
			t.Fatal(e)
		}
		return result
	}
}

// told is all that is told of a field with a truth, but for claims: of each moment, of each pair, of each other one.
type told struct {
	gaps, laps []api.Span
	seen       []int
}

// ask returns all that is told of a field with a truth, but for claims.
func ask(t *testing.T, f api.Field) told {
	t.Helper()
	var a told
	for moment := range len(f.Rides) + 1 {
		for pair := range f.Pairs {
			a.laps = append(a.laps, must(field.Laps(f, moment, pair))(t))
			for other := range f.Pairs {
				if other != pair {
					a.gaps = append(a.gaps, must(field.Gap(f, moment, pair, other))(t))
					a.seen = append(a.seen, must(field.Seen(f, moment, pair, other))(t))
				}
			}
		}
	}
	return a
}

// same returns whether the same is told.
func (a told) same(b told) bool {
	return slices.Equal(a.gaps, b.gaps) && slices.Equal(a.laps, b.laps) && slices.Equal(a.seen, b.seen)
}

// inside returns whether nothing is told less exactly than by another field.
func (a told) inside(b told) bool {
	for i := range a.gaps {
		if !within(a.gaps[i], b.gaps[i]) || a.seen[i]&^b.seen[i] != 0 {
			return false
		}
	}
	for i := range a.laps {
		if !within(a.laps[i], b.laps[i]) {
			return false
		}
	}
	return true
}

// within returns whether all of one span is in another one.
func within(s, of api.Span) bool { return s.Lo >= of.Lo && s.Hi <= of.Hi }

// modulo returns n modulo by.
func modulo(n, by int) int {
	for n < 0 {
		n += by
	}
	return n % by
}

// down returns n divided by by, rounded down.
func down(n, by int) int {
	return (n - modulo(n, by)) / by
}

package relay_test

import (
	"math/rand"
	"slices"
	"testing"

	"lapworks/api"
	"lapworks/relay"
)

func span(lo, hi int) api.Span { return api.Span{Lo: lo, Hi: hi} }

// stint returns a stint by what both judges wrote of its beginning, and of its end.
func stint(rider int, on0, on1, off0, off1 api.Span) api.RelayStint {
	return api.RelayStint{Rider: rider, On: [2]api.Span{on0, on1}, Off: [2]api.Span{off0, off1}}
}

// seen returns a stint of which both judges wrote the same.
func seen(rider int, on, off api.Span) api.RelayStint { return stint(rider, on, on, off, off) }

func relays(rest int, stints ...api.RelayStint) api.Relays {
	return api.Relays{Rest: rest, Stints: stints}
}

// exampleR and exampleS are the relays of the chapter's examples.
func exampleR() api.Relays {
	return relays(2,
		stint(0, span(0, 0), span(0, 2), span(10, 14), span(12, 16)),
		stint(1, span(11, 13), span(9, 12), span(20, 24), span(21, 25)),
		stint(0, span(22, 30), span(23, 26), span(40, 44), span(38, 42)))
}

func exampleS() api.Relays { return with(exampleR(), 4, span(14, 15)) }

// whole is all minutes.
func whole() api.Span { return span(0, api.RelayMinutes) }

// entryOf returns what is written in the entry with a number.
func entryOf(r api.Relays, number int) *api.Span {
	s := &r.Stints[number/4]
	if number&2 != 0 {
		return &s.Off[number&1]
	}
	return &s.On[number&1]
}

// latest returns the latest minute that is written.
func latest(r api.Relays) int {
	l := 0
	for number := range 4 * len(r.Stints) {
		l = max(l, entryOf(r, number).Hi)
	}
	return l
}

// behind returns a minute behind all that is written, if there is one.
func behind(r api.Relays) int { return min(latest(r)+3, api.RelayMinutes) }

// copied returns the same relays in memory of their own.
func copied(r api.Relays) api.Relays { return relays(r.Rest, slices.Clone(r.Stints)...) }

// with returns relays with something else written in an entry.
func with(r api.Relays, number int, s api.Span) api.Relays {
	r = copied(r)
	*entryOf(r, number) = s
	return r
}

// equal returns whether two relays are the same.
func equal(a, b api.Relays) bool { return a.Rest == b.Rest && slices.Equal(a.Stints, b.Stints) }

// ridden returns stints, each from a minute to a later one, that can be so, from a minute on.
func ridden(r *rand.Rand, rest, stints, from int, riders []int) truth {
	t := make(truth, stints)
	free := [2]int{from, from}
	earliest := from
	for i := range t {
		on := max(earliest, free[riders[i]]) + r.Intn(5)
		off := on + 1 + r.Intn(9)
		t[i] = [2]int{on, off}
		earliest, free[riders[i]] = on+1, off+rest
	}
	return t
}

// around returns a span with a minute in it.
func around(r *rand.Rand, minute, wide int) api.Span {
	return span(max(0, minute-r.Intn(wide)), min(api.RelayMinutes, minute+r.Intn(wide)))
}

// observed returns relays by which what was ridden is a truth.
func observed(r *rand.Rand, rest int, t truth, riders []int, wide int) api.Relays {
	o := relays(rest)
	for i, s := range t {
		o.Stints = append(o.Stints, stint(riders[i], around(r, s[0], wide), around(r, s[0], wide), around(r, s[1], wide), around(r, s[1], wide)))
	}
	return o
}

// randomTruth returns relays with a truth, and this.
func randomTruth(r *rand.Rand, stints, from, wide int) (api.Relays, truth) {
	riders := make([]int, stints)
	for i := range riders {
		riders[i] = r.Intn(2)
	}
	rest := r.Intn(6)
	t := ridden(r, rest, stints, from, riders)
	return observed(r, rest, t, riders, wide), t
}

// randomRelays returns relays; some of their entries, at most so many, are wrong.
func randomRelays(r *rand.Rand, stints, from, wide, wrong int) api.Relays {
	o, _ := randomTruth(r, stints, from, wide)
	for range wrong {
		if stints > 0 {
			*entryOf(o, r.Intn(4*stints)) = around(r, from+r.Intn(50), wide)
		}
	}
	return o
}

// told is all that is told of relays with a truth, of the minutes one by one.
type told struct {
	on, off, length []api.Span
	handed          []int
	nobody, gap     []int
}

// ask returns all that is told of relays with a truth, of minutes up to one.
func ask(t *testing.T, r api.Relays, last int) told {
	t.Helper()
	var a told
	for i := range r.Stints {
		a.on = append(a.on, must(relay.On(r, i))(t))
		a.off = append(a.off, must(relay.Off(r, i))(t))
		a.length = append(a.length, must(relay.Length(r, i))(t))
		if i > 0 {
			a.handed = append(a.handed, must(relay.Handed(r, i-1))(t))
		}
	}
	a.nobody = minutes(t, r, last, relay.Nobody)
	a.gap = minutes(t, r, last, relay.Gap)
	return a
}

// minutes returns all minutes up to one that are told, one after the other.
func minutes(t *testing.T, r api.Relays, last int, first func(r api.Relays, from, to int) (int, api.Errno)) []int {
	t.Helper()
	var all []int
	for from := 0; from <= last; {
		minute, e := first(r, from, last)
		if e == api.ErrNone && minute == 0 {
			break
		}
		if e != api.OK || minute < from || minute > last {
			t.Fatal(r, from, minute, e)
		}
		all = append(all, minute)
		from = minute + 1
	}
	return all
}

// same returns whether the same is told.
func (a told) same(b told) bool {
	return slices.Equal(a.on, b.on) && slices.Equal(a.off, b.off) && slices.Equal(a.length, b.length) && slices.Equal(a.handed, b.handed) && slices.Equal(a.nobody, b.nobody) && slices.Equal(a.gap, b.gap)
}

// must returns what takes a result that has no error.
func must[T any](result T, e api.Errno) func(t *testing.T) T {
	return func(t *testing.T) T {
		t.Helper()
		if e != api.OK {
			t.Fatal(e)
		}
		return result
	}
}

// within returns whether all of one span is in another one.
func within(s, of api.Span) bool { return s.Lo >= of.Lo && s.Hi <= of.Hi }

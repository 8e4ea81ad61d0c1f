package relay_test

import (
	"math"
	"testing"

	"lapworks/api"
	"lapworks/relay"
)

// refused tests that all functions of a truth refuse relays and numbers with an error, and return nothing else.
func refused(t *testing.T, r api.Relays, stint, from, to int, want api.Errno) {
	t.Helper()
	refusedStint(t, r, stint, want)
	if stint != len(r.Stints)-1 {
		if n, e := relay.Handed(r, stint); n != 0 || e != want {
			t.Error("Handed", r, stint, n, e)
		}
	}
	refusedMinutes(t, r, from, to, want)
}

// refusedStint tests that all functions of a stint, but for Handed, return nothing but an error.
func refusedStint(t *testing.T, r api.Relays, stint int, want api.Errno) {
	t.Helper()
	if s, e := relay.On(r, stint); s != (api.Span{}) || e != want {
		t.Error("On", r, stint, s, e)
	}
	if s, e := relay.Off(r, stint); s != (api.Span{}) || e != want {
		t.Error("Off", r, stint, s, e)
	}
	if s, e := relay.Length(r, stint); s != (api.Span{}) || e != want {
		t.Error("Length", r, stint, s, e)
	}
}

// refusedMinutes tests that both functions of minutes return nothing but an error.
func refusedMinutes(t *testing.T, r api.Relays, from, to int, want api.Errno) {
	t.Helper()
	if n, e := relay.Nobody(r, from, to); n != 0 || e != want {
		t.Error("Nobody", r, from, to, n, e)
	}
	if n, e := relay.Gap(r, from, to); n != 0 || e != want {
		t.Error("Gap", r, from, to, n, e)
	}
}

// unblamed tests that Clash and Wrong return nothing but an error.
func unblamed(t *testing.T, r api.Relays, want api.Errno) {
	t.Helper()
	if n, e := relay.Clash(r); n != 0 || e != want {
		t.Error("Clash", r, n, e)
	}
	if n, e := relay.Wrong(r); n != 0 || e != want {
		t.Error("Wrong", r, n, e)
	}
}

// notValid returns relays that are not valid.
func notValid() []api.Relays {
	long := make([]api.RelayStint, api.RelayStints+1)
	for i := range long {
		long[i] = seen(i%2, whole(), whole())
	}
	huge := make([]api.RelayStint, 1<<14)
	all := []api.Relays{
		relays(-1), relays(61), relays(math.MaxInt), relays(math.MinInt), relays(0, long...), relays(0, huge...),
		relays(-1, exampleR().Stints...), relays(61, exampleR().Stints...), relays(61, exampleS().Stints...),
	}
	for _, r := range []api.Relays{exampleR(), exampleS(), relays(0, long[1:]...)} {
		for i := range r.Stints {
			for _, rider := range []int{-1, 2, math.MaxInt, math.MinInt} {
				o := copied(r)
				o.Stints[i].Rider = rider
				all = append(all, o)
			}
		}
		for number := range 4 * len(r.Stints) {
			for _, s := range []api.Span{
				span(-1, 10), span(10, 601), span(11, 10), span(601, 601), span(-1, -1), span(601, 600), span(0, -1),
				span(math.MinInt, math.MaxInt), span(math.MaxInt, math.MinInt), span(0, math.MaxInt), span(math.MinInt, 0),
			} {
				all = append(all, with(r, number, s))
			}
		}
	}
	return all
}

// R1, R2: whatever else is asked for, relays that are not valid come first.
func TestNotValid(t *testing.T) {
	for _, r := range notValid() {
		for _, stint := range []int{0, -1, 9, math.MaxInt, math.MinInt} {
			refused(t, r, stint, 0, 10, api.ErrArg)
			refused(t, r, stint, -1, 601, api.ErrArg)
			refused(t, r, stint, 9, 8, api.ErrArg)
		}
		if n, e := relay.Handed(r, len(r.Stints)-1); n != 0 || e != api.ErrArg {
			t.Error("Handed", r, n, e)
		}
		unblamed(t, r, api.ErrArg)
	}
}

// R1, R2: numbers out of their range come before a clash, and before that there is none.
func TestOutOfRange(t *testing.T) {
	for _, r := range []api.Relays{exampleR(), exampleS(), relays(0), relays(60, seen(1, whole(), whole())), relays(0, seen(0, span(600, 600), whole()))} {
		for _, stint := range []int{len(r.Stints), -1, 5, math.MaxInt, math.MinInt} {
			refusedStint(t, r, stint, api.ErrRange)
			if n, e := relay.Handed(r, stint); n != 0 || e != api.ErrRange {
				t.Error("Handed", r, stint, n, e)
			}
		}
		if n, e := relay.Handed(r, len(r.Stints)-1); n != 0 || e != api.ErrRange {
			t.Error("Handed of the last one", r, n, e)
		}
		for _, m := range [][2]int{{-1, 0}, {-1, 600}, {0, 601}, {601, 601}, {1, 0}, {600, 599}, {-2, -1}, {0, math.MaxInt}, {math.MinInt, 0}, {math.MaxInt, math.MinInt}, {math.MinInt, math.MaxInt}} {
			refusedMinutes(t, r, m[0], m[1], api.ErrRange)
		}
	}
}

// R1: a clash comes before that there is no such minute, and no function but Clash and Wrong tells anything then.
func TestNoTruth(t *testing.T) {
	for i, r := range []api.Relays{
		exampleS(),
		relays(0, seen(0, span(600, 600), whole())),
		relays(0, seen(0, whole(), span(0, 0))),
		relays(0, seen(0, span(5, 5), span(5, 5))),
		relays(0, seen(0, span(5, 9), span(20, 30)), seen(1, span(5, 5), span(20, 30))),
		relays(2, seen(1, span(5, 9), span(20, 30)), seen(1, span(10, 21), span(40, 50))),
		relays(60, seen(1, span(0, 0), span(1, 1)), seen(0, span(1, 1), span(2, 2)), seen(1, span(60, 60), span(61, 61))),
	} {
		for stint := range r.Stints {
			refused(t, r, stint, 0, 600, api.ErrClash)
			refused(t, r, stint, 7, 7, api.ErrClash)
			refused(t, r, stint, 600, 600, api.ErrClash)
		}
		clash, wrong := blamed(r)
		if n, e := relay.Clash(r); n != clash || n == 0 || e != api.OK {
			t.Error(i, n, e, clash)
		}
		if n, e := relay.Wrong(r); n != wrong || n == 0 || e != api.OK {
			t.Error(i, n, e, wrong)
		}
	}
}

// R7: the limits themselves are valid.
func TestLimits(t *testing.T) {
	var five []api.RelayStint
	for range api.RelayStints {
		five = append(five, seen(0, whole(), whole()))
	}
	r := relays(api.RelayRest, five...)
	// Each of them lasts at least a minute, and 60 more pass until the next one.
	for i := range five {
		if s, e := relay.On(r, i); s != span(61*i, 355+61*i) || e != api.OK {
			t.Error("On", i, s, e)
		}
		if s, e := relay.Off(r, i); s != span(61*i+1, 356+61*i) || e != api.OK {
			t.Error("Off", i, s, e)
		}
		if s, e := relay.Length(r, i); s != span(1, 356) || e != api.OK {
			t.Error("Length", i, s, e)
		}
		if i > 0 {
			if n, e := relay.Handed(r, i-1); n != api.RelayNever || e != api.OK {
				t.Error("Handed", i, n, e)
			}
		}
	}
	if n, e := relay.Nobody(r, 0, 599); n != 0 || e != api.ErrNone {
		t.Error("Nobody", n, e)
	}
	if n, e := relay.Gap(r, 0, 600); n != 0 || e != api.OK {
		t.Error("Gap", n, e)
	}
	unblamed(t, r, api.ErrNone)
}

// P1 of the document: no argument leads to a panic.
func TestAnyArguments(t *testing.T) {
	odd := []int{math.MinInt, -1, 0, 1, 5, 60, 599, 600, 601, math.MaxInt}
	var lists [][]api.RelayStint
	for _, lo := range odd {
		for _, hi := range odd {
			s := seen(0, span(lo, hi), whole())
			lists = append(lists, []api.RelayStint{s}, []api.RelayStint{s, seen(1, whole(), span(lo, hi)), s, s, s}, []api.RelayStint{seen(lo, whole(), whole()), s, s, s, s, s})
		}
	}
	for _, rest := range odd {
		for _, l := range lists {
			r := relays(rest, l...)
			relay.Clash(r)
			relay.Wrong(r)
			for _, a := range odd {
				relay.On(r, a)
				relay.Off(r, a)
				relay.Length(r, a)
				relay.Handed(r, a)
				relay.Nobody(r, a, 600)
				relay.Gap(r, 0, a)
			}
		}
	}
}

// R3: an empty list is the same as none.
func TestNilAndEmpty(t *testing.T) {
	for _, r := range []api.Relays{{}, {Stints: []api.RelayStint{}}, {Rest: api.RelayRest}} {
		if n, e := relay.Nobody(r, 7, 9); n != 7 || e != api.OK {
			t.Error("Nobody", r, n, e)
		}
		if n, e := relay.Gap(r, 0, 0); n != 0 || e != api.OK {
			t.Error("Gap", r, n, e)
		}
		if n, e := relay.Gap(r, 600, 600); n != 600 || e != api.OK {
			t.Error("Gap", r, n, e)
		}
		unblamed(t, r, api.ErrNone)
	}
}

// P2.6, R4: arguments are as they were, also what is behind them in the same memory.
func TestMemory(t *testing.T) {
	for _, r := range []api.Relays{exampleR(), exampleS()} {
		was := copied(r)
		room := append(copied(r).Stints, seen(1, span(3, 4), span(5, 6)))
		r.Stints = room[:len(r.Stints)]
		for range 2 {
			for i := range r.Stints {
				relay.On(r, i)
				relay.Off(r, i)
				relay.Length(r, i)
				relay.Handed(r, i)
			}
			relay.Nobody(r, 0, 600)
			relay.Gap(r, 0, 600)
			relay.Clash(r)
			relay.Wrong(r)
		}
		if !equal(r, was) || room[len(room)-1] != seen(1, span(3, 4), span(5, 6)) {
			t.Error(r, was)
		}
	}
}

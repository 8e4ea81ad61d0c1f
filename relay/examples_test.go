package relay_test

import (
	"testing"

	"lapworks/api"
	"lapworks/relay"
)

// spans tests what a function returns of each stint.
func spans(t *testing.T, name string, f func(api.Relays, int) (api.Span, api.Errno), r api.Relays, want ...api.Span) {
	t.Helper()
	for i, w := range want {
		if s, e := f(r, i); s != w || e != api.OK {
			t.Error(name, i, s, e, w)
		}
	}
}

// P2.1: the chapter's examples, and what follows from other stints.
func TestWhen(t *testing.T) {
	spans(t, "On", relay.On, exampleR(), span(0, 0), span(11, 12), span(23, 26))
	spans(t, "Off", relay.Off, exampleR(), span(12, 14), span(21, 24), span(40, 42))
	if s, e := relay.Length(exampleR(), 1); s != span(9, 13) || e != api.OK {
		t.Error("Length", s, e)
	}
	// A stint alone is bound by nothing but its own length.
	one := relays(60, seen(1, whole(), whole()))
	spans(t, "On", relay.On, one, span(0, 599))
	spans(t, "Off", relay.Off, one, span(1, 600))
	spans(t, "Length", relay.Length, one, span(1, 600))
	// Of two riders the second one only begins later, and can end before the first one.
	two := relays(60, seen(0, whole(), whole()), seen(1, whole(), whole()))
	spans(t, "On", relay.On, two, span(0, 598), span(1, 599))
	spans(t, "Off", relay.Off, two, span(1, 600), span(2, 600))
	spans(t, "Length", relay.Length, two, span(1, 600), span(1, 599))
	// The same rider has to rest.
	again := relays(60, seen(0, whole(), whole()), seen(0, whole(), whole()))
	spans(t, "On", relay.On, again, span(0, 538), span(61, 599))
	spans(t, "Off", relay.Off, again, span(1, 539), span(62, 600))
	spans(t, "Length", relay.Length, again, span(1, 539), span(1, 539))
	// Also with a stint of the other one between.
	between := relays(20, seen(1, span(5, 9), span(20, 30)), seen(0, whole(), whole()), seen(1, span(0, 45), span(0, 50)))
	spans(t, "On", relay.On, between, span(5, 9), span(6, 44), span(40, 45))
	spans(t, "Off", relay.Off, between, span(20, 25), span(7, 600), span(41, 50))
	// Without a rest the same rider can come on in the minute in which they went off.
	spans(t, "On", relay.On, relays(0, seen(0, span(3, 3), span(7, 9)), seen(0, span(0, 7), whole())), span(3, 3), span(7, 7))
}

// P2.2: the chapter's examples, and just on time, and just too late.
func TestHanded(t *testing.T) {
	for i, x := range []struct {
		r     api.Relays
		stint int
		want  int
		e     api.Errno
	}{
		{exampleR(), 0, api.RelayAlways, api.OK}, {exampleR(), 1, api.RelayPerhaps, api.OK}, {exampleR(), 2, 0, api.ErrRange},
		{relays(0, seen(0, span(0, 0), span(5, 5)), seen(1, span(5, 5), whole())), 0, api.RelayAlways, api.OK},
		{relays(0, seen(0, span(0, 0), span(5, 5)), seen(1, span(6, 6), whole())), 0, api.RelayNever, api.OK},
		{relays(0, seen(0, span(0, 0), span(5, 5)), seen(1, span(5, 6), whole())), 0, api.RelayPerhaps, api.OK},
		{relays(0, seen(0, span(0, 0), span(4, 5)), seen(1, span(5, 5), whole())), 0, api.RelayPerhaps, api.OK},
		{relays(0, seen(0, span(0, 0), span(4, 5)), seen(1, span(1, 4), whole())), 0, api.RelayAlways, api.OK},
		{relays(0, seen(0, span(0, 0), span(4, 5)), seen(1, span(6, 9), whole())), 0, api.RelayNever, api.OK},
		{relays(0, seen(0, span(0, 0), span(5, 5)), seen(0, span(5, 5), whole())), 0, api.RelayAlways, api.OK},
		{relays(1, seen(0, span(0, 0), span(5, 5)), seen(0, span(5, 7), whole())), 0, api.RelayNever, api.OK},
		// The third one rests only if the second one ends late, and then it was handed over.
		{relays(10, seen(0, span(0, 0), span(20, 20)), seen(1, span(10, 10), span(28, 30)), seen(0, span(0, 30), whole())), 1, api.RelayPerhaps, api.OK},
		{relays(10, seen(0, span(0, 0), span(20, 20)), seen(1, span(10, 10), span(28, 29)), seen(0, span(0, 30), whole())), 1, api.RelayNever, api.OK},
		{relays(0, seen(0, whole(), whole())), 0, 0, api.ErrRange},
	} {
		if n, e := relay.Handed(x.r, x.stint); n != x.want || e != x.e {
			t.Error(i, n, e)
		}
	}
}

// P2.3: the chapter's examples, both ends of the minutes, and minutes that are free only in some truth.
func TestNobodyThere(t *testing.T) {
	pause := relays(0, seen(0, span(3, 5), span(10, 12)), seen(1, span(15, 16), span(20, 20)))
	for i, x := range []struct {
		r           api.Relays
		from, to    int
		nobody, gap int
		e, f        api.Errno
	}{
		{exampleR(), 0, 39, 0, 21, api.ErrNone, api.OK}, {exampleR(), 0, 20, 0, 0, api.ErrNone, api.ErrNone},
		{exampleR(), 0, 45, 42, 21, api.OK, api.OK}, {exampleR(), 0, 41, 0, 21, api.ErrNone, api.OK},
		{exampleR(), 42, 42, 42, 42, api.OK, api.OK}, {exampleR(), 41, 41, 0, 41, api.ErrNone, api.OK},
		{exampleR(), 26, 39, 0, 0, api.ErrNone, api.ErrNone}, {exampleR(), 25, 39, 0, 25, api.ErrNone, api.OK},
		{exampleR(), 600, 600, 600, 600, api.OK, api.OK},
		{pause, 0, 600, 0, 0, api.OK, api.OK}, {pause, 2, 2, 2, 2, api.OK, api.OK},
		{pause, 3, 600, 12, 3, api.OK, api.OK}, {pause, 5, 11, 0, 10, api.ErrNone, api.OK},
		{pause, 5, 9, 0, 0, api.ErrNone, api.ErrNone}, {pause, 13, 14, 13, 13, api.OK, api.OK},
		{pause, 15, 600, 20, 15, api.OK, api.OK}, {pause, 16, 19, 0, 0, api.ErrNone, api.ErrNone},
		// The second one begins at least a minute before the first one ends.
		{relays(0, seen(0, span(0, 0), span(5, 9)), seen(1, span(1, 4), span(20, 20))), 0, 19, 0, 0, api.ErrNone, api.ErrNone},
		// In any minute one of them can be the one that is there.
		{relays(0, seen(0, whole(), whole()), seen(1, whole(), whole())), 0, 600, 600, 0, api.OK, api.OK},
		{relays(0, seen(0, whole(), whole())), 599, 599, 0, 599, api.ErrNone, api.OK},
		{relays(0, seen(0, span(0, 0), span(600, 600))), 0, 599, 0, 0, api.ErrNone, api.ErrNone},
		{relays(0, seen(0, span(0, 0), span(600, 600))), 0, 600, 600, 600, api.OK, api.OK},
		// The first one, who came on long before, outlasts the second one.
		{relays(0, seen(0, span(0, 0), span(30, 30)), seen(1, span(5, 5), span(9, 9))), 0, 29, 0, 0, api.ErrNone, api.ErrNone},
		// The first one ends early or late: the second one comes on in time either way.
		{relays(0, seen(0, span(0, 0), span(5, 8)), seen(0, span(5, 5), span(9, 9))), 0, 8, 0, 0, api.ErrNone, api.ErrNone},
		// The rest of the first one lasts until the second one has gone off, and a minute longer.
		{relays(10, seen(0, span(0, 0), span(20, 22)), seen(1, span(15, 15), span(29, 29)), seen(0, span(0, 40), span(50, 50))), 0, 49, 29, 29, api.OK, api.OK},
		{relays(9, seen(0, span(0, 0), span(20, 22)), seen(1, span(15, 15), span(29, 29)), seen(0, span(0, 40), span(50, 50))), 0, 49, 0, 29, api.ErrNone, api.OK},
		{relays(10, seen(0, span(0, 0), span(20, 22)), seen(1, span(15, 15), span(29, 29)), seen(0, span(0, 29), span(50, 50))), 0, 49, 0, 0, api.ErrClash, api.ErrClash},
		{relays(9, seen(0, span(0, 0), span(20, 22)), seen(1, span(15, 15), span(29, 29)), seen(0, span(0, 29), span(50, 50))), 0, 49, 0, 0, api.ErrNone, api.ErrNone},
	} {
		if n, e := relay.Nobody(x.r, x.from, x.to); n != x.nobody || e != x.e {
			t.Error("Nobody", i, n, e)
		}
		if n, e := relay.Gap(x.r, x.from, x.to); n != x.gap || e != x.f {
			t.Error("Gap", i, n, e)
		}
	}
}

// P2.4, P2.5: the chapter's examples; entries that clash alone, by two, and with several others.
func TestWhoIsWrong(t *testing.T) {
	minute := func(m int) api.Span { return span(m, m) }
	var disputed []api.RelayStint
	for i := range api.RelayStints {
		m := 100 + 50*i
		disputed = append(disputed, stint(i%2, minute(m), minute(m+1), minute(m+10), minute(m+11)))
	}
	for i, x := range []struct {
		r            api.Relays
		clash, wrong int
		e            api.Errno
	}{
		{exampleR(), 0, 0, api.ErrNone}, {exampleS(), 48, 16, api.OK},
		// An end in the minute 0, and a beginning in the last one, are wrong whatever else is so.
		{relays(0, stint(0, whole(), whole(), minute(0), whole())), 4, 4, api.OK},
		{relays(0, stint(0, whole(), minute(600), whole(), whole())), 2, 2, api.OK},
		{relays(0, stint(0, minute(600), minute(600), minute(0), minute(0))), 1, 15, api.OK},
		{relays(0, seen(0, whole(), whole()), stint(1, whole(), minute(0), whole(), whole())), 32, 32, api.OK},
		// A single one is fewer than two, also if its number is greater.
		{relays(0, stint(0, minute(3), minute(4), whole(), whole()), stint(1, whole(), whole(), whole(), minute(1))), 128, 129, api.OK},
		// Both of one stint, of both judges, and those of two stints.
		{relays(0, stint(0, whole(), minute(5), minute(5), whole())), 6, 2, api.OK},
		{relays(0, stint(0, whole(), minute(5), minute(6), whole())), 0, 0, api.ErrNone},
		{relays(0, stint(0, whole(), minute(9), whole(), whole()), stint(1, minute(9), whole(), whole(), whole())), 18, 2, api.OK},
		{relays(7, stint(0, whole(), whole(), whole(), minute(20)), stint(0, whole(), minute(26), whole(), whole())), 40, 8, api.OK},
		{relays(7, stint(0, whole(), whole(), whole(), minute(20)), stint(0, whole(), minute(27), whole(), whole())), 0, 0, api.ErrNone},
		{relays(7, stint(0, whole(), whole(), whole(), minute(20)), stint(1, whole(), minute(26), whole(), whole())), 0, 0, api.ErrNone},
		// One entry is against all others: it alone is wrong, though each of the others has a lesser number.
		{relays(0, seen(0, minute(5), minute(30)), stint(1, minute(10), minute(10), minute(40), minute(9))), 144, 128, api.OK},
		// Of the judges of an end just one can be right, and this one of both beginnings is against both.
		{relays(0, stint(0, span(5, 9), span(5, 9), minute(9), span(20, 30))), 12, 4, api.OK},
		{relays(0, stint(0, span(9, 12), span(10, 14), whole(), minute(9))), 9, 8, api.OK},
		// Both judges are against each other everywhere: of each two the lesser number.
		{relays(0, disputed...), 3, 0x55555, api.OK},
	} {
		if n, e := relay.Clash(x.r); n != x.clash || e != x.e {
			t.Error("Clash", i, n, e)
		}
		if n, e := relay.Wrong(x.r); n != x.wrong || e != x.e {
			t.Error("Wrong", i, n, e)
		}
	}
}

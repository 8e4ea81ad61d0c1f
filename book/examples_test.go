package book_test

import (
	"bytes"
	"slices"
	"testing"

	"lapworks/api"
	"lapworks/book"
)

// matched tests that a thing is written as a file, and that this is read as the thing.
func matched[T any](t *testing.T, f files[T], thing T, file []byte) {
	t.Helper()
	if got, e := f.write(thing); e != api.OK || !bytes.Equal(got, file) {
		t.Errorf("%s %+v: %q %v, not %q", f.name, thing, got, e, file)
	}
	f.reads(t, file, thing)
}

// P14.1, P14.2: the chapter's examples; sheets of one pair, of none, and all ways in which one passes several times.
func TestCount(t *testing.T) {
	for _, x := range []struct {
		c    api.Count
		text string
	}{
		{exampleCount(), lines("pairs 3", "2ab", "-")},
		{countOf(1, nil), lines("pairs 1", "-")},
		{countOf(4, nil, nil, nil, nil), lines("pairs 4", "-", "-", "-", "-")},
		{countOf(1, list(0), list(0, 0), list(0, 0, 0, 0, 0, 0)), lines("pairs 1", "a", "2a", "6a")},
		{countOf(4, list(0, 1, 2, 3), list(3, 2, 1, 0), list(3, 3, 3, 3, 3)), lines("pairs 4", "abcd", "dcba", "5d")},
		{countOf(4, list(0, 0, 1, 1, 1, 0), list(1, 0, 0, 1, 2, 2), list(2, 2, 2, 3, 3, 3), list(1, 2, 1, 2, 1, 2)), lines("pairs 4", "2a3ba", "b2ab2c", "3c3d", "bcbcbc")},
		{fullCount(), lines("pairs 4", "dcdcdc", "dcdcdc", "dcdcdc", "dcdcdc")},
		// There may be more pairs than pass.
		{countOf(2, list(0, 0, 0, 0)), lines("pairs 2", "4a")},
	} {
		matched(t, counts(), x.c, []byte(x.text))
	}
}

// P14.1, P14.2: the chapter's examples; no stints, spans of one number alone, and the limits.
func TestRelays(t *testing.T) {
	for _, x := range []struct {
		r    api.Relays
		text string
	}{
		{exampleRelays(), lines("rest 2", "0 on 0 0..2 off 10..14 12..16")},
		{relaysOf(0), lines("rest 0")},
		{relaysOf(60), lines("rest 60")},
		{relaysOf(2, stint(0, span(0, 0), span(0, 2), span(10, 14), span(12, 16)), stint(1, span(11, 13), span(9, 12), span(20, 24), span(21, 25)), stint(0, span(22, 30), span(23, 26), span(40, 44), span(38, 42))), lines("rest 2", "0 on 0 0..2 off 10..14 12..16", "1 on 11..13 9..12 off 20..24 21..25", "0 on 22..30 23..26 off 40..44 38..42")},
		{relaysOf(10, stint(1, span(1, 1), span(22, 22), span(333, 333), span(600, 600))), lines("rest 10", "1 on 1 22 off 333 600")},
		// They need not have a truth.
		{relaysOf(1, stint(1, span(5, 9), span(0, 3), span(1, 1), span(0, 600)), stint(1, span(0, 1), span(9, 10), span(99, 100), span(599, 600))), lines("rest 1", "1 on 5..9 0..3 off 1 0..600", "1 on 0..1 9..10 off 99..100 599..600")},
		{fullRelays(), lines("rest 60", "1 on 599..600 599..600 off 599..600 599..600", "1 on 599..600 599..600 off 599..600 599..600", "1 on 599..600 599..600 off 599..600 599..600", "1 on 599..600 599..600 off 599..600 599..600", "1 on 599..600 599..600 off 599..600 599..600")},
	} {
		matched(t, relays(), x.r, []byte(x.text))
	}
}

// P14.1, P14.2: the chapter's examples; no points, no sprints, sprints of which nothing was seen, and more places with points than pairs.
func TestSprints(t *testing.T) {
	for _, x := range []struct {
		s    api.Sprints
		text string
	}{
		{exampleSprints(), lines("pairs 4 points 5 3 2", "sprint", "0>1", "2>3", "1@1..2", "sprint double", "3>0", "0@3")},
		{sprintsOf(1, nil), lines("pairs 1 points")},
		{sprintsOf(6, list(50, 50, 10, 9, 0, 0)), lines("pairs 6 points 50 50 10 9 0 0")},
		{sprintsOf(1, list(7, 7, 6, 5, 4, 3)), lines("pairs 1 points 7 7 6 5 4 3")},
		{sprintsOf(2, list(0), sprint(false, nil), sprint(true, nil), sprint(true, nil), sprint(false, nil)), lines("pairs 2 points 0", "sprint", "sprint double", "sprint double", "sprint")},
		// All is as it was seen, also twice, and if it cannot be so.
		{sprintsOf(3, list(1), sprint(false, list([2]int{1, 2}, [2]int{0, 1}, [2]int{1, 0}, [2]int{1, 2}), at(2, 0, 0), at(0, 0, 2), at(0, 1, 2), at(0, 0, 1))), lines("pairs 3 points 1", "sprint", "1>2", "0>1", "1>0", "1>2", "2@0", "0@0..2", "0@1..2", "0@0..1")},
		{sprintsOf(1, nil, sprint(true, nil, at(0, 0, 0))), lines("pairs 1 points", "sprint double", "0@0")},
		{sprintsOf(6, nil, sprint(false, list([2]int{5, 0}, [2]int{0, 5})), sprint(false, nil, at(5, 5, 5), at(4, 0, 5))), lines("pairs 6 points", "sprint", "5>0", "0>5", "sprint", "5@5", "4@0..5")},
	} {
		matched(t, sprints(), x.s, []byte(x.text))
	}
}

// P14.1, P14.2: the chapter's examples; no rules, no offences, and numbers of one digit and of two.
func TestFines(t *testing.T) {
	for _, x := range []struct {
		f    api.Fines
		file []byte
	}{
		{exampleFines(), exampleBytes()},
		{finesOf(nil, 2), list[byte](70, 0, 2, 0, 68)},
		{finesOf(nil, 4), list[byte](70, 0, 4, 0, 66)},
		{finesOf(nil, 6), list[byte](70, 0, 6, 0, 64)},
		{finesOf(list(rule(0, 0, 0, 0)), 6), list[byte](70, 1, 0, 0, 0, 0, 6, 0, 65)},
		{finesOf(list(rule(127, 128, 255, 127)), 2), list[byte](70, 1, 127, 128, 1, 255, 1, 127, 2, 0, 58)},
		{finesOf(list(rule(256, 129, 1000, 144), rule(999, 896, 384, 128)), 4), list[byte](70, 2, 128, 2, 129, 1, 232, 7, 144, 1, 231, 7, 128, 7, 128, 3, 128, 1, 4, 0, 89)},
		{finesOf(list(rule(1, 2, 3, 4), rule(5, 6, 7, 8)), 6, done(1, 63, 0, 0), done(0, 32, 142, 144), done(1, 1, 127, 128)), list[byte](70, 2, 1, 2, 3, 4, 5, 6, 7, 8, 6, 3, 1, 63, 0, 0, 0, 32, 142, 1, 2, 1, 1, 127, 1, 164)},
	} {
		matched(t, fines(), x.f, x.file)
	}
}

// P14.2: the chapter's examples of what is no file.
func TestNoFiles(t *testing.T) {
	counts().refuses(t, []byte(lines("pairs 3", "aab")), api.ErrForm)
	counts().refuses(t, nil, api.ErrForm)
	file := exampleBytes()
	file[13] = 143
	fines().refuses(t, file, api.ErrClash)
	fines().refuses(t, nil, api.ErrForm)
}

// P14.3: the chapter's example; whichever byte was lost, also none, and the check.
func TestRestore(t *testing.T) {
	file := exampleBytes()
	for at := range file {
		for _, lost := range list[byte](0, 1, 127, 128, 255, file[at]) {
			other := slices.Clone(file)
			other[at] = lost
			if whole, e := book.Restore(other, at); e != api.OK || !bytes.Equal(whole, file) {
				t.Error(at, lost, whole, e)
			}
		}
	}
}

// The example 14 of the document.
func TestDocument(t *testing.T) {
	text, e := book.WriteCount(exampleCount())
	if all := split([]byte(text)); e != api.OK || len(all) != 3 || all[1] != "2ab" {
		t.Error(text, e)
	}
}

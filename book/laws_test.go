package book_test

import (
	"bytes"
	"math/rand"
	"slices"
	"testing"

	"lapworks/api"
	"lapworks/book"
)

// some returns random things, and one with as much of all as there can be.
func (f files[T]) some(seed int64, many int) []T {
	r := rand.New(rand.NewSource(seed))
	all := list(f.full)
	for range many {
		all = append(all, f.random(r))
	}
	return all
}

// readsAgain tests that what was written is read as it was, and is written again with the same bytes, and that no two that differ have the same file.
func readsAgain[T any](t *testing.T, f files[T], seed int64) {
	t.Helper()
	was := map[string]string{}
	for _, thing := range f.some(seed, 3000) {
		file := f.written(t, thing)
		again, e := f.read(file)
		if e != api.OK || shown(again) != shown(thing) || !bytes.Equal(f.written(t, again), file) {
			t.Errorf("%s %q: %+v %v, not %+v", f.name, file, again, e, thing)
		}
		if other, found := was[string(file)]; found && other != shown(thing) {
			t.Errorf("%s %q: %v and %+v", f.name, file, other, thing)
		}
		was[string(file)] = shown(thing)
	}
	if len(was) < 1000 {
		t.Error("too few differ for a test", f.name, len(was))
	}
}

// P14.5: what was written is read as it was.
func TestReadAgain(t *testing.T) {
	readsAgain(t, counts(), 1411)
	readsAgain(t, relays(), 1412)
	readsAgain(t, sprints(), 1413)
	readsAgain(t, fines(), 1414)
}

// changedIn returns things that differ from one another in one number each.
func changedIn[T any](base func() T, changes ...func(thing *T)) []T {
	all := list(base())
	for _, change := range changes {
		thing := base()
		change(&thing)
		all = append(all, thing)
	}
	return all
}

// differ tests that all files of some things differ.
func differ[T any](t *testing.T, f files[T], things []T) {
	t.Helper()
	was := map[string]int{}
	for i, thing := range things {
		file := string(f.written(t, thing))
		if other, found := was[file]; found {
			t.Errorf("%s %q: %+v and %+v", f.name, file, things[other], thing)
		}
		was[file] = i
	}
}

// P14.5: no two that differ have the same file, whichever one number or one order it is in which they do.
func TestDiffer(t *testing.T) {
	type (
		c = api.Count
		r = api.Relays
		s = api.Sprints
		f = api.Fines
	)
	differ(t, counts(), changedIn(exampleCount, func(c *c) { c.Pairs = 2 }, func(c *c) { c.Pairs = 4 }, func(c *c) { c.Sheets[0][2] = 0 }, func(c *c) { c.Sheets[0][2] = 2 }, func(c *c) { c.Sheets[0][1] = 1 }, func(c *c) { slices.Reverse(c.Sheets[0]) }, func(c *c) { c.Sheets[0] = c.Sheets[0][:2] }, func(c *c) { c.Sheets[0] = append(c.Sheets[0], 1) }, func(c *c) { slices.Reverse(c.Sheets) }, func(c *c) { c.Sheets[1] = list(0) }, func(c *c) { c.Sheets = c.Sheets[:1] }, func(c *c) { c.Sheets = append(c.Sheets, nil) }))
	differ(t, relays(), changedIn(exampleRelays, func(r *r) { r.Rest = 1 }, func(r *r) { r.Rest = 20 }, func(r *r) { r.Stints = nil }, func(r *r) { r.Stints = append(r.Stints, r.Stints[0]) }, func(r *r) { r.Stints[0].Rider = 1 }, func(r *r) { r.Stints[0].On[0].Hi = 1 }, func(r *r) { r.Stints[0].On[1].Lo = 1 }, func(r *r) { r.Stints[0].On[1].Hi = 1 }, func(r *r) { r.Stints[0].On[1].Hi = 0 }, func(r *r) { r.Stints[0].Off[0].Lo = 14 }, func(r *r) { r.Stints[0].Off[0].Hi = 15 }, func(r *r) { r.Stints[0].Off[1].Lo = 10 }, func(r *r) { r.Stints[0].Off[1].Hi = 12 }, func(r *r) { slices.Reverse(r.Stints[0].On[:]) }, func(r *r) { slices.Reverse(r.Stints[0].Off[:]) }, func(r *r) { r.Stints[0].On, r.Stints[0].Off = r.Stints[0].Off, r.Stints[0].On }))
	differ(t, sprints(), changedIn(exampleSprints, func(s *s) { s.Pairs = 5 }, func(s *s) { s.Points[2] = 3 }, func(s *s) { s.Points = s.Points[:2] }, func(s *s) { s.Points = append(s.Points, 0) }, func(s *s) { s.List[0].Double = true }, func(s *s) { s.List[1].Double = false }, func(s *s) { slices.Reverse(s.List) }, func(s *s) { s.List = s.List[:1] }, func(s *s) { s.List = append(s.List, api.Sprint{}) }, func(s *s) { s.List[0].Ahead[0] = [2]int{1, 0} }, func(s *s) { slices.Reverse(s.List[0].Ahead) }, func(s *s) { s.List[0].Ahead = s.List[0].Ahead[:1] }, func(s *s) { s.List[0].Places = nil }, func(s *s) { s.List[0].Places[0].Pair = 2 }, func(s *s) { s.List[0].Places[0].Place.Lo = 0 }, func(s *s) { s.List[0].Places[0].Place.Lo = 2 }, func(s *s) { s.List[0].Places[0].Place.Hi = 1 }, func(s *s) { s.List[0].Places, s.List[1].Places = nil, list(at(1, 1, 2), at(0, 3, 3)) }))
	differ(t, fines(), changedIn(exampleFines, func(f *f) { f.Riders = 4 }, func(f *f) { f.List = nil }, func(f *f) { f.List = append(f.List, f.List[0]) }, func(f *f) { f.Rules = append(f.Rules, f.Rules[0]) }, func(f *f) { f.Rules[0].Base++ }, func(f *f) { f.Rules[0].Step++ }, func(f *f) { f.Rules[0].Most++ }, func(f *f) { f.Rules[0].Most = 72 }, func(f *f) { f.Rules[0].Window++ }, func(f *f) { f.List[0].Riders = 1 }, func(f *f) { f.List[0].Riders = 3 }, func(f *f) { f.List[0].Hours.Lo-- }, func(f *f) { f.List[0].Hours.Hi-- }, func(f *f) { f.List[0].Hours.Hi++ }, func(f *f) { f.List[0].Hours = span(6, 7) }))
}

// ends tests that a file with one byte too many, or too few, at its end is none.
func ends[T any](t *testing.T, f files[T], seed int64) {
	t.Helper()
	for _, thing := range f.some(seed, 150) {
		file := f.written(t, thing)
		for b := range 256 {
			if other, e := f.read(append(slices.Clone(file), byte(b))); e == api.OK {
				t.Errorf("%s %q %v: %+v", f.name, file, b, other)
			}
		}
		if other, e := f.read(file[:len(file)-1]); e == api.OK {
			t.Errorf("%s %q: %+v", f.name, file, other)
		}
	}
}

// P14.5: a file with one byte too many, or too few, at its end is none.
func TestEnds(t *testing.T) {
	ends(t, counts(), 1415)
	ends(t, relays(), 1416)
	ends(t, sprints(), 1417)
	ends(t, fines(), 1418)
	// Without a check of 0, and with one more, an even number of each bit is set still.
	file := closed(70, 1, 6, 0, 0, 0, 2, 1, 0, 1, 0, 0)
	zero := closed(70, 1, 6, 0, 0, 0, 2, 1, 0, 1, 67, 0)
	if file[12] == 0 || zero[12] != 0 {
		t.Fatal(file, zero)
	}
	fines().reads(t, zero, finesOf(list(rule(6, 0, 0, 0)), 2, done(0, 1, 67, 67)))
	fines().refuses(t, append(zero, 0), api.ErrForm)
	fines().refuses(t, zero[:12], api.ErrForm)
	fines().refuses(t, append(file, 0), api.ErrForm)
	fines().refuses(t, file[:12], api.ErrClash)
}

// P14.2, P14.5: whichever byte of fines was changed, and to whatever, they are no file.
func TestChangedByte(t *testing.T) {
	for _, thing := range fines().some(1419, 40) {
		file := fines().written(t, thing)
		for i := range file {
			for b := range 256 {
				if other := slices.Clone(file); byte(b) != file[i] {
					other[i] = byte(b)
					fines().refuses(t, other, api.ErrClash)
				}
			}
		}
	}
}

// P14.3, P14.5: whichever byte of fines was lost, whatever is there instead, the bytes are restored.
func TestLostByte(t *testing.T) {
	r := rand.New(rand.NewSource(1420))
	for _, thing := range fines().some(1421, 300) {
		file := fines().written(t, thing)
		for at := range file {
			other := slices.Clone(file)
			other[at] = byte(r.Intn(256))
			whole, e := book.Restore(other, at)
			if e != api.OK || !bytes.Equal(whole, file) {
				t.Errorf("%v %v: %v %v", other, at, whole, e)
			}
			fines().reads(t, whole, thing)
		}
	}
}

// longest tests how many bytes the longest file has, and that no other one has more.
func longest[T any](t *testing.T, f files[T], seed int64, want int) {
	t.Helper()
	if many := len(f.written(t, f.full)); many != want || many > api.BookBytes {
		t.Error(f.name, many, want)
	}
	for _, thing := range f.some(seed, 1000) {
		if many := len(f.written(t, thing)); many > want {
			t.Errorf("%s %+v: %v", f.name, thing, many)
		}
	}
}

// P14.5: no file is longer than BookBytes. How long the longest ones are was counted by hand.
func TestLongest(t *testing.T) {
	// The first line, and four sheets without two of a letter one behind the other.
	longest(t, counts(), 1422, 8+4*7)
	// The first line, and five stints with four spans of two numbers.
	longest(t, relays(), 1423, 8+5*(1+4+17+5+17+1))
	// The first line, and four sprints that are double, with all that can be seen.
	longest(t, sprints(), 1424, 14+6*3+1+4*(14+8*4+6*7))
	// The first byte, the numbers of rules, riders and offences, four rules, five offences with a great hour, and the check.
	longest(t, fines(), 1425, 1+3+4*8+5*5+1)
}

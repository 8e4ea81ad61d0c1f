package book_test

import (
	"fmt"
	"math/rand"
	"slices"
	"testing"

	"lapworks/api"
	"lapworks/book"
)

func span(lo, hi int) api.Span { return api.Span{Lo: lo, Hi: hi} }

// list returns what is written as a list.
func list[T any](all ...T) []T { return all }

// lines returns the text of some lines, each with its end.
func lines(all ...string) string {
	text := ""
	for _, l := range all {
		text += l + "\n"
	}
	return text
}

// countOf returns a count.
func countOf(pairs int, sheets ...[]int) api.Count { return api.Count{Pairs: pairs, Sheets: sheets} }

// relaysOf returns relays.
func relaysOf(rest int, stints ...api.RelayStint) api.Relays {
	return api.Relays{Rest: rest, Stints: stints}
}

// stint returns a stint by what both judges wrote of its beginning, and of its end.
func stint(rider int, on0, on1, off0, off1 api.Span) api.RelayStint {
	return api.RelayStint{Rider: rider, On: [2]api.Span{on0, on1}, Off: [2]api.Span{off0, off1}}
}

// sprintsOf returns sprints.
func sprintsOf(pairs int, points []int, sprints ...api.Sprint) api.Sprints {
	return api.Sprints{Pairs: pairs, Points: points, List: sprints}
}

// sprint returns a sprint by who was ahead of whom, and who was where.
func sprint(double bool, ahead [][2]int, places ...api.SprintPlace) api.Sprint {
	return api.Sprint{Ahead: ahead, Places: places, Double: double}
}

// at returns that a pair was on one of some places.
func at(pair, lo, hi int) api.SprintPlace { return api.SprintPlace{Pair: pair, Place: span(lo, hi)} }

// rule returns a rule for fines.
func rule(base, step, most, window int) api.FineRule {
	return api.FineRule{Base: base, Step: step, Most: most, Window: window}
}

// done returns an offence by one of some riders (a set).
func done(kind, riders, lo, hi int) api.Offence {
	return api.Offence{Kind: kind, Riders: riders, Hours: span(lo, hi)}
}

// finesOf returns fines.
func finesOf(rules []api.FineRule, riders int, offences ...api.Offence) api.Fines {
	return api.Fines{Rules: rules, Riders: riders, List: offences}
}

// exampleCount, exampleRelays, exampleSprints and exampleFines are what the chapter's examples are about.
func exampleCount() api.Count { return countOf(3, list(0, 0, 1), nil) }

func exampleRelays() api.Relays {
	return relaysOf(2, stint(0, span(0, 0), span(0, 2), span(10, 14), span(12, 16)))
}

func exampleSprints() api.Sprints {
	return sprintsOf(4, list(5, 3, 2), sprint(false, list([2]int{0, 1}, [2]int{2, 3}), at(1, 1, 2)), sprint(true, list([2]int{3, 0}), at(0, 3, 3)))
}

func exampleFines() api.Fines {
	return finesOf(list(rule(10, 5, 200, 10)), 2, done(0, 2, 5, 6))
}

// exampleBytes are the bytes of the example's fines.
func exampleBytes() []byte { return list[byte](70, 1, 10, 5, 200, 1, 10, 2, 1, 0, 2, 5, 1, 142) }

// fullCount, fullRelays, fullSprints and fullFines have as much of all as there can be, and the longest files.
func fullCount() api.Count {
	return countOf(4, slices.Repeat(list(list(3, 2, 3, 2, 3, 2)), api.CountSheets)...)
}

func fullRelays() api.Relays {
	long := span(599, 600)
	return relaysOf(api.RelayRest, slices.Repeat(list(stint(1, long, long, long, long)), api.RelayStints)...)
}

func fullSprints() api.Sprints {
	one := sprint(true, slices.Repeat(list([2]int{5, 4}), api.SprintAhead), slices.Repeat(list(at(5, 4, 5)), api.SprintPlaces)...)
	return sprintsOf(api.SprintPairs, slices.Repeat(list(api.SprintPoints), api.SprintPairs), slices.Repeat(list(one), api.SprintList)...)
}

func fullFines() api.Fines {
	r := rule(api.FineCoins, api.FineCoins, api.FineCoins, api.FineHour)
	return finesOf(slices.Repeat(list(r), api.FineRules), api.FineRiders, slices.Repeat(list(done(3, 63, api.FineHour-api.FineWide, api.FineHour)), api.FineList)...)
}

// files is a kind of files: how they are written and read, and what is used to test that.
type files[T any] struct {
	name   string
	write  func(thing T) ([]byte, api.Errno)
	read   func(file []byte) (T, api.Errno)
	form   func(thing T) []byte
	isFile func(file []byte) bool
	random func(r *rand.Rand) T
	full   T
}

// asBytes returns what writes the bytes of texts.
func asBytes[T any](write func(thing T) (string, api.Errno)) func(thing T) ([]byte, api.Errno) {
	return func(thing T) ([]byte, api.Errno) {
		text, e := write(thing)
		return []byte(text), e
	}
}

// ofBytes returns what reads texts that are given as bytes.
func ofBytes[T any](read func(text string) (T, api.Errno)) func(file []byte) (T, api.Errno) {
	return func(file []byte) (T, api.Errno) { return read(string(file)) }
}

func counts() files[api.Count] {
	return files[api.Count]{"count", asBytes(book.WriteCount), ofBytes(book.ReadCount), countForm, isCountFile, randomCount, fullCount()}
}

func relays() files[api.Relays] {
	return files[api.Relays]{"relays", asBytes(book.WriteRelays), ofBytes(book.ReadRelays), relaysForm, isRelaysFile, randomRelays, fullRelays()}
}

func sprints() files[api.Sprints] {
	return files[api.Sprints]{"sprints", asBytes(book.WriteSprints), ofBytes(book.ReadSprints), sprintsForm, isSprintsFile, randomSprints, fullSprints()}
}

func fines() files[api.Fines] {
	return files[api.Fines]{"fines", book.WriteFines, book.ReadFines, finesForm, isFinesFile, randomFines, fullFines()}
}

// shown returns all that a thing is, so that nil lists and empty ones are the same.
func shown(thing any) string { return fmt.Sprintf("%+v", thing) }

// written returns the file of something valid.
func (f files[T]) written(t *testing.T, thing T) []byte {
	t.Helper()
	file, e := f.write(thing)
	if e != api.OK {
		t.Fatal(f.name, shown(thing), e)
	}
	return file
}

// reads tests that a file is read as a thing.
func (f files[T]) reads(t *testing.T, file []byte, want T) {
	t.Helper()
	if thing, e := f.read(file); e != api.OK || shown(thing) != shown(want) {
		t.Errorf("%s %q: %+v %v, not %+v", f.name, file, thing, e, want)
	}
}

// refuses tests that bytes are read as nothing, with an error.
func (f files[T]) refuses(t *testing.T, file []byte, want api.Errno) {
	t.Helper()
	var nothing T
	if thing, e := f.read(file); e != want || shown(thing) != shown(nothing) {
		t.Errorf("%s %.100q: %+v %v, not %v", f.name, file, thing, e, want)
	}
}

// randomList returns at most so many random things.
func randomList[T any](r *rand.Rand, most int, one func() T) []T {
	var all []T
	for range r.Intn(most + 1) {
		all = append(all, one())
	}
	return all
}

// randomSpan returns a span within 0 to another number. It is often one number alone.
func randomSpan(r *rand.Rand, most int) api.Span {
	lo := r.Intn(most + 1)
	return span(lo, lo+r.Intn(2)*r.Intn(most-lo+1))
}

// randomCount returns a count in which one often passes several times, one behind the other.
func randomCount(r *rand.Rand) api.Count {
	c := countOf(1+r.Intn(api.CountPairs), nil)
	few := 1 + r.Intn(c.Pairs)
	one := func() int { return r.Intn(few) }
	c.Sheets = append(randomList(r, api.CountSheets-1, func() []int { return randomList(r, api.CountPassings, one) }), randomList(r, api.CountPassings, one))
	return c
}

func randomRelays(r *rand.Rand) api.Relays {
	most := list(12, 120, api.RelayMinutes)[r.Intn(3)]
	one := func() api.Span { return randomSpan(r, most) }
	return relaysOf(r.Intn(api.RelayRest+1), randomList(r, api.RelayStints, func() api.RelayStint { return stint(r.Intn(2), one(), one(), one(), one()) })...)
}

func randomSprints(r *rand.Rand) api.Sprints {
	s := sprintsOf(1+r.Intn(api.SprintPairs), randomList(r, api.SprintPairs, func() int { return r.Intn(api.SprintPoints + 1) }))
	slices.Sort(s.Points)
	slices.Reverse(s.Points)
	place := func() api.SprintPlace { return api.SprintPlace{Pair: r.Intn(s.Pairs), Place: randomSpan(r, s.Pairs-1)} }
	s.List = randomList(r, api.SprintList, func() api.Sprint {
		one := sprint(r.Intn(2) == 0, nil, randomList(r, r.Intn(api.SprintPlaces+1), place)...)
		if s.Pairs > 1 {
			one.Ahead = randomList(r, r.Intn(api.SprintAhead+1), func() [2]int { return [2]int(r.Perm(s.Pairs)[:2]) })
		}
		return one
	})
	return s
}

// randomFines returns fines with numbers of one digit, and of two.
func randomFines(r *rand.Rand) api.Fines {
	most := list(3, 140, api.FineCoins)[r.Intn(3)]
	coins := func() int { return r.Intn(most + 1) }
	f := finesOf(randomList(r, api.FineRules, func() api.FineRule { return rule(coins(), coins(), coins(), r.Intn(api.FineHour+1)) }), 2+2*r.Intn(3))
	if len(f.Rules) > 0 {
		f.List = randomList(r, api.FineList, func() api.Offence {
			lo := r.Intn(api.FineHour + 1)
			return done(r.Intn(len(f.Rules)), 1+r.Intn(1<<f.Riders-1), lo, min(api.FineHour, lo+r.Intn(api.FineWide+1)))
		})
	}
	return f
}

// closed returns bytes with the check behind them.
func closed(file ...byte) []byte {
	odd := byte(0)
	for bit := range 8 {
		for _, b := range file {
			odd ^= b & (1 << bit)
		}
	}
	return append(slices.Clone(file), odd)
}

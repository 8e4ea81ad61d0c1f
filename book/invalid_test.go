package book_test

import (
	"bytes"
	"math"
	"math/rand"
	"slices"
	"strings"
	"testing"

	"lapworks/api"
	"lapworks/book"
)

// odd returns numbers, many of which are out of every range.
func odd() []int {
	return list(math.MinInt, math.MinInt+1, -64, -1, 0, 1, 2, 3, 4, 5, 6, 7, 50, 60, 63, 64, 144, 600, 1000, 1<<32, 1<<62, math.MaxInt-1, math.MaxInt)
}

// outside returns numbers that are not from one to another one.
func outside(least, most int) []int {
	return append(slices.DeleteFunc(odd(), func(n int) bool { return n >= least && n <= most }), least-1, most+1)
}

// badSpans returns spans that are not valid within 0 to another number.
func badSpans(most int) []api.Span {
	all := list(span(1, 0), span(most, most-1), span(-1, 0), span(0, most+1), span(-1, most+1), span(math.MaxInt, math.MinInt), span(math.MinInt, math.MaxInt), span(0, math.MinInt), span(math.MaxInt, 0))
	for _, n := range outside(0, most) {
		all = append(all, span(n, n))
	}
	return all
}

func badCounts() []api.Count {
	all := list(api.Count{}, countOf(1), countOf(4), countOf(2, make([][]int, api.CountSheets+1)...), countOf(2, make([][]int, 1<<12)...), countOf(2, make([]int, api.CountPassings+1)), countOf(2, nil, make([]int, 1<<16)))
	for _, n := range outside(1, api.CountPairs) {
		all = append(all, countOf(n, nil), countOf(n, list(0)))
	}
	for pairs := range api.CountPairs {
		for _, n := range outside(0, pairs) {
			all = append(all, countOf(pairs+1, list(n)), countOf(pairs+1, nil, list(0, 0, 0), list(0, 0, n)))
		}
	}
	return all
}

func badRelays() []api.Relays {
	zero := stint(0, span(0, 0), span(0, 0), span(0, 0), span(0, 0))
	all := list(relaysOf(0, make([]api.RelayStint, api.RelayStints+1)...), relaysOf(0, make([]api.RelayStint, 1<<12)...))
	for _, n := range outside(0, api.RelayRest) {
		all = append(all, relaysOf(n), relaysOf(n, zero))
	}
	bad := func(change func(s *api.RelayStint)) {
		r := relaysOf(2, zero, zero, zero)
		change(&r.Stints[2])
		all = append(all, r)
	}
	for _, n := range outside(0, 1) {
		bad(func(s *api.RelayStint) { s.Rider = n })
	}
	for _, b := range badSpans(api.RelayMinutes) {
		for judge := range 2 {
			bad(func(s *api.RelayStint) { s.On[judge] = b })
			bad(func(s *api.RelayStint) { s.Off[judge] = b })
		}
	}
	return all
}

func badSprints() []api.Sprints {
	two := func(one api.Sprint) api.Sprints { return sprintsOf(4, nil, api.Sprint{}, one) }
	all := list(api.Sprints{}, sprintsOf(4, make([]int, api.SprintPairs+1)), sprintsOf(4, make([]int, 1<<16)), sprintsOf(4, nil, make([]api.Sprint, api.SprintList+1)...), sprintsOf(4, nil, make([]api.Sprint, 1<<12)...),
		two(sprint(false, slices.Repeat(list([2]int{0, 1}), api.SprintAhead+1))), two(sprint(false, nil, make([]api.SprintPlace, api.SprintPlaces+1)...)),
		sprintsOf(4, list(1, 2)), sprintsOf(4, list(5, 5, 3, 4)), sprintsOf(4, list(0, 50)))
	for _, n := range outside(1, api.SprintPairs) {
		all = append(all, sprintsOf(n, nil), sprintsOf(n, nil, sprint(false, nil, at(0, 0, 0))))
	}
	for _, n := range outside(0, api.SprintPoints) {
		all = append(all, sprintsOf(4, list(n)), sprintsOf(4, list(50, n)), sprintsOf(4, list(n, 0)), sprintsOf(4, list(n, n, n)))
	}
	for _, n := range outside(0, 3) {
		all = append(all, two(sprint(true, list([2]int{n, 0}))), two(sprint(true, list([2]int{1, 0}, [2]int{0, n}))), two(sprint(false, nil, at(0, 0, 0), at(n, 0, 0))))
	}
	for pair := range 4 {
		all = append(all, two(sprint(false, list([2]int{pair, pair}))))
	}
	for _, b := range badSpans(3) {
		all = append(all, two(sprint(false, nil, at(3, b.Lo, b.Hi))), two(sprint(false, nil, at(1, 2, 3), at(0, b.Lo, b.Hi))))
	}
	return all
}

// badFines returns fines of which one thing alone is not valid.
func badFines() []api.Fines {
	all := list(api.Fines{}, finesOf(make([]api.FineRule, api.FineRules+1), 2), finesOf(make([]api.FineRule, 1<<12), 2), finesOf(nil, 2, done(0, 1, 0, 0)), finesOf(make([]api.FineRule, 1), 2, slices.Repeat(list(done(0, 1, 0, 0)), api.FineList+1)...))
	for _, n := range append(outside(2, 6), 3, 5) {
		all = append(all, finesOf(nil, n), finesOf(make([]api.FineRule, 1), n, done(0, 1, 0, 0)))
	}
	bad := func(riders int, change func(r *api.FineRule, o *api.Offence)) {
		f := finesOf(make([]api.FineRule, 3), riders, done(2, 1, 0, 0), done(1, 2, 10, 12))
		change(&f.Rules[2], &f.List[1])
		all = append(all, f)
	}
	for _, n := range outside(0, api.FineCoins) {
		bad(2, func(r *api.FineRule, _ *api.Offence) { r.Base = n })
		bad(2, func(r *api.FineRule, _ *api.Offence) { r.Step = n })
		bad(2, func(r *api.FineRule, _ *api.Offence) { r.Most = n })
	}
	for _, n := range outside(0, api.FineHour) {
		bad(2, func(r *api.FineRule, _ *api.Offence) { r.Window = n })
	}
	for _, n := range outside(0, 2) {
		bad(2, func(_ *api.FineRule, o *api.Offence) { o.Kind = n })
	}
	for _, riders := range list(2, 4, 6) {
		for _, n := range outside(1, 1<<riders-1) {
			bad(riders, func(_ *api.FineRule, o *api.Offence) { o.Riders = n })
		}
	}
	for _, b := range append(badSpans(api.FineHour), span(0, 3), span(141, 144), span(0, 144)) {
		bad(2, func(_ *api.FineRule, o *api.Offence) { o.Hours = b })
	}
	return all
}

// notWritten tests that things are not written.
func notWritten[T any](t *testing.T, f files[T], bad []T) {
	t.Helper()
	for _, thing := range bad {
		if file, e := f.write(thing); len(file) != 0 || e != api.ErrArg {
			t.Errorf("%s %+v: %q %v", f.name, thing, file, e)
		}
	}
}

// P14.1, R2: what is not valid is not written.
func TestNotValid(t *testing.T) {
	notWritten(t, counts(), badCounts())
	notWritten(t, relays(), badRelays())
	notWritten(t, sprints(), badSprints())
	notWritten(t, fines(), badFines())
}

// P14.2: files of what would be valid but for one thing, files of another form, and those of other kinds.
func TestNoForm(t *testing.T) {
	for _, text := range list("\n", "\n\n", " ", "pairs", "pairs ", "pairs 3", "pairs \n-\n", "3\n-\n", "Pairs 3\n-\n", "pairs  3\n-\n", " pairs 3\n-\n", "pairs 3 \n-\n", "pairs 3\r\n-\n", "pairs 3\n", "pairs 3\n\n", "pairs 3\n-", "pairs 3\n-\n\n", "pairs 3\n-\n ", "pairs 3\n-\n-", "pairs 3\n--\n", "pairs 3\n-a\n", "pairs 3\na-\n", "pairs 3\n0-\n", "pairs 3\n1-\n",
		"pairs 3\na", "pairs 3\nA\n", "pairs 3\nd\n", "pairs 3\n`\n", "pairs 3\na b\n", "pairs 3\n0\n", "pairs 3\n2\n", "pairs 3\na2\n", "pairs 3\naa\n", "pairs 3\n1a\n", "pairs 3\n0a\n", "pairs 3\n0ab\n", "pairs 3\n02a\n", "pairs 3\n+2a\n", "pairs 3\n-2a\n", "pairs 3\n2aa\n", "pairs 3\na2a\n", "pairs 3\n2a2a\n", "pairs 3\n2a0ba\n", "pairs 3\n7a\n", "pairs 3\n6ab\n", "pairs 3\n12a\n", "pairs 3\n3a4b\n", "pairs 3\nabcabca\n", "pairs 3\n6a0b\n", "pairs 3\n99999999999999999999a\n", "pairs 3\n4294967298a\n", "pairs 3\n18446744073709551617a\n", "pairs 3\n9223372036854775807a\n",
		"pairs 0\n-\n", "pairs 5\n-\n", "pairs 03\n-\n", "pairs +3\n-\n", "pairs -3\n-\n", "pairs 4294967297\n-\n", "pairs 18446744073709551617\n-\n", "pairs 1\nb\n", "pairs 3\n-\n-\n-\n-\n-\n") {
		counts().refuses(t, []byte(text), api.ErrForm)
	}
	for _, text := range list("", "\n", "rest", "rest ", "rest \n", "rest 2", "rest 02\n", "rest -1\n", "rest +1\n", "rest 61\n", "rest 18446744073709551616\n", "rest 0\n\n", "rest 0\n0 on 0 0 off 0 0", "rest 0\n0 on 0 0 off 0 0\n\n", "rest 0\n2 on 0 0 off 0 0\n", "rest 0\n-1 on 0 0 off 0 0\n", "rest 0\n on 0 0 off 0 0\n", "rest 0\n00 on 0 0 off 0 0\n", "rest 0\n0 on 0 off 0 0\n", "rest 0\n0 on 0 0 off 0\n", "rest 0\n0 on 0 0 0 off 0 0\n", "rest 0\n0 on 0 0 off 0 0 0\n", "rest 0\n0 on 0 0 off 0 0 \n", "rest 0\n0 off 0 0 on 0 0\n", "rest 0\n0  on 0 0 off 0 0\n", "rest 0\n0 on 0\t0 off 0 0\n",
		"rest 0\n0 on 0..0 0 off 0 0\n", "rest 0\n0 on 1..0 0 off 0 0\n", "rest 0\n0 on 0.1 0 off 0 0\n", "rest 0\n0 on 0...1 0 off 0 0\n", "rest 0\n0 on ..1 0 off 0 0\n", "rest 0\n0 on 0.. 0 off 0 0\n", "rest 0\n0 on 0..1..2 0 off 0 0\n", "rest 0\n0 on 0..01 0 off 0 0\n", "rest 0\n0 on 00 0 off 0 0\n", "rest 0\n0 on 0 601 off 0 0\n", "rest 0\n0 on 0 0 off 0..601 0\n", "rest 0\n0 on 0 0 off 0 18446744073709551617\n", "rest 0\n0 on 0 0 off 0..18446744073709551617 0\n", "rest 0\n"+strings.Repeat("0 on 0 0 off 0 0\n", 6)) {
		relays().refuses(t, []byte(text), api.ErrForm)
	}
	for _, text := range list("", "\n", "pairs 2", "pairs 2\n", "pairs 2 points", "pairs 2 points \n", "pairs 2  points\n", "pairs 0 points\n", "pairs 7 points\n", "pairs 02 points\n", "pairs 2 points  1\n", "pairs 2 points 1 \n", "pairs 2 points 01\n", "pairs 2 points -1\n", "pairs 2 points 51\n", "pairs 2 points 1 2\n", "pairs 2 points 1,1\n", "pairs 2 points 1 1 1 1 1 1 1\n", "pairs 2 points 18446744073709551617\n", "pairs 2 points\n\n", "pairs 2 points\n0>1\n", "pairs 2 points\n0@1\n", "pairs 2 points\nsprint", "pairs 2 points\nsprint \n", "pairs 2 points\nsprints\n", "pairs 2 points\nsprint\n\n", "pairs 2 points\nsprintdouble\n", "pairs 2 points\nsprint  double\n", "pairs 2 points\nsprint double double\n", "pairs 2 points\nsprint single\n", "pairs 2 points\ndouble\n", "pairs 2 points\n"+strings.Repeat("sprint\n", 5),
		"pairs 2 points\nsprint\n0@1\n0>1\n", "pairs 2 points\nsprint\n0>1\n0@1\n1>0\n", "pairs 2 points\nsprint\n0>0\n", "pairs 2 points\nsprint\n0>2\n", "pairs 2 points\nsprint\n2>0\n", "pairs 2 points\nsprint\n0>\n", "pairs 2 points\nsprint\n>1\n", "pairs 2 points\nsprint\n0<1\n", "pairs 2 points\nsprint\n0>1>0\n", "pairs 2 points\nsprint\n0>1@0\n", "pairs 2 points\nsprint\n0>@1\n", "pairs 2 points\nsprint\n0@>1\n", "pairs 2 points\nsprint\n0 > 1\n", "pairs 2 points\nsprint\n0>1..1\n", "pairs 2 points\nsprint\n1>0..1\n", "pairs 2 points\nsprint\n0>01\n", "pairs 2 points\nsprint\n0>-1\n", "pairs 2 points\nsprint\n0>1", "pairs 2 points\nsprint\n0>1 \n", "pairs 2 points\nsprint\n0@2\n", "pairs 2 points\nsprint\n2@0\n", "pairs 2 points\nsprint\n0@0..2\n", "pairs 2 points\nsprint\n0@1..0\n", "pairs 2 points\nsprint\n0@0..0\n", "pairs 2 points\nsprint\n0@00\n", "pairs 2 points\nsprint\n0@-1..1\n", "pairs 2 points\nsprint\n0@0,1\n", "pairs 2 points\nsprint\n01@0\n", "pairs 2 points\nsprint\n"+strings.Repeat("0>1\n", 9), "pairs 2 points\nsprint\n"+strings.Repeat("0@1\n", 7)) {
		sprints().refuses(t, []byte(text), api.ErrForm)
	}
}

// P14.2: bytes in which of each bit an even number is set, but that are none of fines.
func TestNoFines(t *testing.T) {
	great := list[byte](128, 128, 128, 128, 128, 128, 128, 128, 128)
	for _, file := range [][]byte{
		nil, {0}, {0, 0}, {70, 70}, closed(70, 0), closed(70, 0, 2), closed(70, 0, 2, 0, 0), closed(71, 0, 2, 0), closed(0, 2, 0), closed(70), closed(6, 0, 2, 0), {70, 0, 2, 0, 34, 102},
		// Riders that cannot be, more rules and offences than there are, and fewer.
		closed(70, 0, 0, 0), closed(70, 0, 1, 0), closed(70, 0, 3, 0), closed(70, 0, 5, 0), closed(70, 0, 8, 0), closed(70, 1, 2, 0), closed(70, 0, 2, 1), closed(70, 0, 0, 0, 0, 0, 2, 0), closed(70, 0, 2, 1, 0, 1, 0, 0), closed(70, 1, 0, 0, 0, 0, 2, 0, 0, 1, 0, 0), closed(70, 1, 0, 0, 0, 0, 2, 2, 0, 1, 0, 0), closed(append(append([]byte{70, 5}, make([]byte, 20)...), 2, 0)...), closed(append([]byte{70, 1, 0, 0, 0, 0, 2, 6}, bytes.Repeat([]byte{0, 1, 0, 0}, 6)...)...),
		// Digits of 0 at the end, numbers without an end, and numbers that would be others if they were too great.
		closed(70, 128, 0, 2, 0), closed(70, 0, 130, 0, 0), closed(70, 0, 130, 128, 0, 0), closed(70, 0, 2, 128, 0), closed(70, 0, 2, 128), closed(70, 128), closed(append([]byte{70}, append(great, 2, 2, 0)...)...), closed(append([]byte{70, 0, 130}, append(great, 2, 0)...)...), closed(append([]byte{70, 0, 130}, append(great[1:], 2, 0)...)...), closed(append([]byte{70}, append(great[1:], 1, 2, 0)...)...), closed(append([]byte{70}, append(great, 0, 2, 0)...)...),
		// Coins, hours, kinds and sets that cannot be.
		closed(70, 1, 233, 7, 0, 0, 0, 2, 0), closed(70, 1, 0, 233, 7, 0, 0, 2, 0), closed(70, 1, 0, 0, 233, 7, 0, 2, 0), closed(70, 1, 0, 0, 0, 145, 1, 2, 0), closed(70, 1, 0, 0, 0, 0, 2, 1, 1, 1, 0, 0), closed(70, 1, 0, 0, 0, 0, 2, 1, 0, 0, 0, 0), closed(70, 1, 0, 0, 0, 0, 2, 1, 0, 4, 0, 0), closed(70, 1, 0, 0, 0, 0, 4, 1, 0, 16, 0, 0), closed(70, 1, 0, 0, 0, 0, 6, 1, 0, 64, 0, 0), closed(70, 1, 0, 0, 0, 0, 2, 1, 0, 1, 0, 3), closed(70, 1, 0, 0, 0, 0, 2, 1, 0, 1, 145, 1, 0), closed(70, 1, 0, 0, 0, 0, 2, 1, 0, 1, 144, 1, 1), closed(70, 1, 0, 0, 0, 0, 2, 1, 0, 1, 143, 1, 2),
		// Hours that would be others if their sum was too great.
		closed(append([]byte{70, 1, 0, 0, 0, 0, 2, 1, 0, 1, 1}, 255, 255, 255, 255, 255, 255, 255, 255, 255, 1)...),
	} {
		fines().refuses(t, file, api.ErrForm)
	}
}

// longer tests that files of more bytes than there can be are too long, whatever they are, and others are not.
func longer[T any](t *testing.T, f files[T], such byte) {
	t.Helper()
	was := f.form(f.full)
	for _, many := range list(api.BookBytes+1, api.BookBytes+2, 2*api.BookBytes, 1<<20) {
		f.refuses(t, bytes.Repeat([]byte{such}, many), api.ErrLong)
		f.refuses(t, append(slices.Clone(was), bytes.Repeat([]byte{such}, many-len(was))...), api.ErrLong)
	}
	f.refuses(t, bytes.Repeat([]byte{such}, api.BookBytes), api.ErrForm)
	f.refuses(t, append(slices.Clone(was), bytes.Repeat([]byte{0}, api.BookBytes-len(was))...), api.ErrForm)
}

// P14.2, R1, R7: a file that is too long comes first, and BookBytes are not too many.
func TestTooLong(t *testing.T) {
	for _, such := range list[byte]('\n', 'a', '6', ' ', '-', 0) {
		longer(t, counts(), such)
		longer(t, relays(), such)
		longer(t, sprints(), such)
		longer(t, fines(), such)
	}
	// What was changed comes behind that, and before another form.
	fines().refuses(t, append(make([]byte, api.BookBytes), 1), api.ErrLong)
	fines().refuses(t, append(make([]byte, api.BookBytes-1), 1), api.ErrClash)
	fines().refuses(t, list[byte](1), api.ErrClash)
	fines().refuses(t, list[byte](70, 0, 2, 0), api.ErrClash)
	for bit := range 8 {
		file := exampleBytes()
		file[0] ^= 1 << bit
		fines().refuses(t, file, api.ErrClash)
		// Two bytes that are changed alike do not show so, but the first one is another one.
		file[13] ^= 1 << bit
		fines().refuses(t, file, api.ErrForm)
	}
}

// P14.2: many lines, and many passings, are no file, and are refused without much memory.
func TestManyParts(t *testing.T) {
	for _, part := range list("6a", "999999999999999999a", "-\n", "6a\n", "a\n", "\n", "9", "2") {
		text := "pairs 4\n" + strings.Repeat(part, (api.BookBytes-9)/len(part))
		counts().refuses(t, []byte(text), api.ErrForm)
		counts().refuses(t, []byte(text+"\n"), api.ErrForm)
	}
	for _, part := range list("0 on 0 0 off 0 0\n", "\n", "1") {
		relays().refuses(t, []byte("rest 1\n"+strings.Repeat(part, (api.BookBytes-7)/len(part))), api.ErrForm)
	}
	for _, part := range list("sprint\n", "sprint double\n", "0>1\n", "0@0\n", "\n") {
		sprints().refuses(t, []byte("pairs 2 points\nsprint\n"+strings.Repeat(part, (api.BookBytes-22)/len(part))), api.ErrForm)
	}
	sprints().refuses(t, []byte("pairs 2 points"+strings.Repeat(" 1", 400)+"\n"), api.ErrForm)
	for _, file := range [][]byte{{70, 255, 255, 255, 127}, {70, 0, 2, 255, 255, 255, 127}, append([]byte{70}, bytes.Repeat([]byte{255}, 900)...)} {
		fines().refuses(t, closed(append(file, make([]byte, 80)...)...), api.ErrForm)
		fines().refuses(t, closed(append(file, bytes.Repeat([]byte{1}, 80)...)...), api.ErrForm)
	}
}

// notRestored tests that nothing is restored, but there is an error.
func notRestored(t *testing.T, file []byte, at int, want api.Errno) {
	t.Helper()
	if whole, e := book.Restore(file, at); len(whole) != 0 || e != want {
		t.Errorf("%.100v %v: %v %v, not %v", file, at, whole, e, want)
	}
}

// P14.3, R1, R2: bytes that are too long, an index that is none, and bytes that are not of fines whatever the one was, in this order.
func TestNotRestored(t *testing.T) {
	for _, at := range append(odd(), api.BookBytes, api.BookBytes+1) {
		notRestored(t, make([]byte, api.BookBytes+1), at, api.ErrLong)
		notRestored(t, append(exampleBytes(), make([]byte, api.BookBytes)...), at, api.ErrLong)
		notRestored(t, nil, at, api.ErrRange)
		notRestored(t, []byte{}, at, api.ErrRange)
		if at < 0 || at >= len(exampleBytes()) {
			notRestored(t, exampleBytes(), at, api.ErrRange)
		}
		if at < 0 || at >= api.BookBytes {
			notRestored(t, make([]byte, api.BookBytes), at, api.ErrRange)
		} else {
			notRestored(t, make([]byte, api.BookBytes), at, api.ErrForm)
		}
	}
	notRestored(t, list[byte](70), 0, api.ErrForm)
	for at := range 5 {
		// Two bytes are wrong, or there are 0 digits at an end.
		notRestored(t, list[byte](69, 0, 2, 1, 68), at, api.ErrForm)
		notRestored(t, list[byte](70, 0, 128, 0, 196), at, api.ErrForm)
		if at != 1 {
			notRestored(t, list[byte](70, 1, 2, 0, 68), at, api.ErrForm)
		}
	}
	// One byte of the example is lost, and another one changed: the wrong one cannot be restored.
	file := exampleBytes()
	file[0] = 71
	for at := 1; at < len(file); at++ {
		notRestored(t, file, at, api.ErrForm)
	}
}

// P1 of the document: no argument leads to a panic.
func TestAnyArguments(t *testing.T) {
	for _, a := range odd() {
		for _, b := range odd() {
			book.WriteCount(countOf(a, list(b), list(a, b)))
			book.WriteRelays(relaysOf(a, stint(b, span(a, b), span(b, a), span(a, a), span(b, b))))
			book.WriteRelays(relaysOf(1, stint(1, span(a, b), span(0, 0), span(0, 0), span(a, b))))
			book.WriteSprints(sprintsOf(a, list(b, a), sprint(true, list([2]int{a, b}), at(a, b, a), at(b, a, b))))
			book.WriteSprints(sprintsOf(2, list(a, b), sprint(true, list([2]int{a, b}), at(0, a, b))))
			book.WriteFines(finesOf(list(rule(a, b, a, b)), a, done(a, b, a, b), done(b, a, b, a)))
			book.WriteFines(finesOf(list(rule(1, 1, 1, 1)), 2, done(0, 1, a, b), done(a, b, 1, 1)))
			book.Restore(exampleBytes(), a)
			book.Restore(make([]byte, max(0, min(a, 2000))), b)
		}
	}
	r := rand.New(rand.NewSource(1410))
	for range 20000 {
		file := make([]byte, r.Intn(40))
		for i := range file {
			file[i] = list(byte(r.Intn(256)), "pairs points sprint double rest on off 0123456789ab..>@- \n"[r.Intn(57)])[r.Intn(2)]
		}
		counts().told(t, file)
		relays().told(t, file)
		sprints().told(t, file)
		fines().told(t, file)
		fines().told(t, closed(append([]byte{70}, file...)...))
	}
}

// R3: lists that are empty are as none.
func TestNilAndEmpty(t *testing.T) {
	matched(t, counts(), countOf(3, []int{}, nil), []byte(lines("pairs 3", "-", "-")))
	matched(t, relays(), api.Relays{Stints: []api.RelayStint{}}, []byte(lines("rest 0")))
	matched(t, sprints(), api.Sprints{Pairs: 2, Points: []int{}, List: []api.Sprint{{Ahead: [][2]int{}, Places: []api.SprintPlace{}}}}, []byte(lines("pairs 2 points", "sprint")))
	matched(t, sprints(), api.Sprints{Pairs: 2, List: []api.Sprint{}}, []byte(lines("pairs 2 points")))
	matched(t, fines(), api.Fines{Rules: []api.FineRule{}, Riders: 4, List: []api.Offence{}}, list[byte](70, 0, 4, 0, 66))
	fines().refuses(t, []byte{}, api.ErrForm)
	notWritten(t, counts(), list(api.Count{Pairs: 3, Sheets: [][]int{}}))
}

// P14.4, R4: what is written, and what is read, is as it was, also what is behind lists in the same memory.
func TestArguments(t *testing.T) {
	sheets := list(list(0, 0, 1, 9), nil, list(9))
	stints := append(exampleRelays().Stints, stint(9, span(9, 9), span(9, 9), span(9, 9), span(9, 9)))
	points, seen := list(5, 3, 2, 9), exampleSprints().List
	rules, offences := append(exampleFines().Rules, rule(9, 9, 9, 9)), append(exampleFines().List, done(9, 9, 9, 9))
	file := append(exampleBytes(), 9)
	was := shown(list[any](sheets, stints, points, seen, rules, offences, file))
	counts().written(t, countOf(3, sheets[0][:3], sheets[1]))
	counts().written(t, api.Count{Pairs: 3, Sheets: sheets[1:2]})
	relays().written(t, relaysOf(2, stints[:1]...))
	sprints().written(t, sprintsOf(4, points[:3], seen[:1]...))
	fines().written(t, finesOf(rules[:1], 2, offences[:1]...))
	fines().reads(t, file[:14], exampleFines())
	for at := range 14 {
		for _, lost := range list[byte](file[at], 0) {
			kept := file[at]
			file[at] = lost
			book.Restore(file[:14], at)
			if file[at] != lost {
				t.Error(at, file)
			}
			file[at] = kept
		}
	}
	if now := shown(list[any](sheets, stints, points, seen, rules, offences, file)); now != was {
		t.Error(now, was)
	}
}

// P14.4, R4: what is told is the caller's own, and no two lists of it share memory.
func TestMemory(t *testing.T) {
	c, _ := book.ReadCount(lines("pairs 2", "ab", "2a", "b"))
	for i := range c.Sheets {
		was := shown(c.Sheets[:i]) + shown(c.Sheets[i+1:])
		spoil(c.Sheets[i], 99)
		if now := shown(c.Sheets[:i]) + shown(c.Sheets[i+1:]); now != was {
			t.Error(i, now, was)
		}
	}
	s, _ := book.ReadSprints(lines("pairs 2 points 1 1", "sprint", "0>1", "0@1", "sprint", "1>0", "1@0"))
	want := shown(s.List[1])
	spoil(s.List[0].Ahead, [2]int{9, 9})
	spoil(s.List[0].Places, at(9, 9, 9))
	spoil(s.Points, 9)
	if now := shown(s.List[1]); now != want {
		t.Error(now, want)
	}
	for _, first := range list(exampleBytes(), append([]byte{0}, exampleBytes()[1:]...)) {
		one, _ := book.Restore(first, 0)
		two, _ := book.Restore(first, 0)
		spoil(one, 9)
		if !bytes.Equal(two, exampleBytes()) || !bytes.Equal(first[1:], exampleBytes()[1:]) || first[0] != 0 && first[0] != 70 {
			t.Error(first, two)
		}
	}
	one, two := fines().written(t, exampleFines()), fines().written(t, exampleFines())
	f, _ := book.ReadFines(one)
	spoil(one, 9)
	if !bytes.Equal(two, exampleBytes()) || shown(f) != shown(exampleFines()) {
		t.Error(two, f)
	}
	spoil(f.Rules, rule(9, 9, 9, 9))
	spoil(f.List, done(9, 9, 9, 9))
	fines().reads(t, two, exampleFines())
}

// spoil writes over all of a list, and over what is behind it in the same memory.
func spoil[T any](all []T, with T) {
	all = all[:cap(all)]
	for i := range all {
		all[i] = with
	}
}

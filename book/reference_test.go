package book_test

import (
	"bytes"
	"encoding/binary"
	"fmt"
	"math/rand"
	"regexp"
	"slices"
	"strconv"
	"strings"
	"testing"

	"lapworks/api"
	"lapworks/book"
)

// What the chapter defines is done here as it stands there, by other means: files are put together by fmt and encoding/binary, and whether bytes are a file is told by expressions, and by what the chapters of layers 1, 2, 4 and 11 say.

// spanForm returns the text of a span.
func spanForm(s api.Span) string {
	if s.Lo == s.Hi {
		return fmt.Sprintf("%d", s.Lo)
	}
	return fmt.Sprintf("%d..%d", s.Lo, s.Hi)
}

func countForm(c api.Count) []byte {
	text := fmt.Sprintf("pairs %d\n", c.Pairs)
	for _, sheet := range c.Sheets {
		line := ""
		for _, pair := range sheet {
			line += "abcd"[pair : pair+1]
		}
		for _, letter := range list("a", "b", "c", "d") {
			line = regexp.MustCompile(letter+letter+"+").ReplaceAllStringFunc(line, func(s string) string { return fmt.Sprintf("%d%s", len(s), letter) })
		}
		if line == "" {
			line = "-"
		}
		text += line + "\n"
	}
	return []byte(text)
}

func relaysForm(r api.Relays) []byte {
	text := fmt.Sprintf("rest %d\n", r.Rest)
	for _, s := range r.Stints {
		text += fmt.Sprintf("%d on %s %s off %s %s\n", s.Rider, spanForm(s.On[0]), spanForm(s.On[1]), spanForm(s.Off[0]), spanForm(s.Off[1]))
	}
	return []byte(text)
}

func sprintsForm(s api.Sprints) []byte {
	all := list(strings.TrimRight(fmt.Sprintf("pairs %d points %s", s.Pairs, strings.Trim(fmt.Sprint(s.Points), "[]")), " "))
	for _, one := range s.List {
		all = append(all, map[bool]string{false: "sprint", true: "sprint double"}[one.Double])
		for _, a := range one.Ahead {
			all = append(all, fmt.Sprintf("%d>%d", a[0], a[1]))
		}
		for _, p := range one.Places {
			all = append(all, fmt.Sprintf("%d@%s", p.Pair, spanForm(p.Place)))
		}
	}
	return []byte(lines(all...))
}

func finesForm(f api.Fines) []byte {
	numbers := list(len(f.Rules))
	for _, r := range f.Rules {
		numbers = append(numbers, r.Base, r.Step, r.Most, r.Window)
	}
	numbers = append(numbers, f.Riders, len(f.List))
	for _, o := range f.List {
		numbers = append(numbers, o.Kind, o.Riders, o.Hours.Lo, o.Hours.Hi-o.Hours.Lo)
	}
	file := list[byte](70)
	for _, n := range numbers {
		file = binary.AppendUvarint(file, uint64(n))
	}
	return closed(file...)
}

// number and spans are expressions for a number, and for a span.
const (
	number = `(?:0|[1-9][0-9]*)`
	spans  = number + `(?:\.\.` + number + `)?`
)

// What texts look like, but for what their numbers have to be.
var (
	digits      = regexp.MustCompile(`[0-9]+`)
	spanText    = regexp.MustCompile(spans)
	run         = regexp.MustCompile(`[2-6]?[a-d]`)
	twice       = regexp.MustCompile(`a[2-6]?a|b[2-6]?b|c[2-6]?c|d[2-6]?d`)
	countText   = regexp.MustCompile(`\Apairs [1-4]\n(?:(?:-|(?:[2-6]?[a-d])+)\n){1,4}\z`)
	relaysText  = regexp.MustCompile(`\Arest ` + number + `\n(?:[01] on ` + spans + ` ` + spans + ` off ` + spans + ` ` + spans + `\n){0,5}\z`)
	sprintsText = regexp.MustCompile(`\Apairs [1-6] points(?: ` + number + `){0,6}\n(?:sprint(?: double)?\n(?:[0-5]>[0-5]\n){0,8}(?:[0-5]@` + spans + `\n){0,6}){0,4}\z`)
)

// numbersOf returns all numbers of a text, a great one for those that are too long.
func numbersOf(text string) []int {
	var all []int
	for _, d := range digits.FindAllString(text, -1) {
		n, err := strconv.Atoi(d)
		if err != nil {
			n = 1 << 60
		}
		all = append(all, n)
	}
	return all
}

// areSpans returns whether all spans of a text are valid within 0 to another number, and have their form.
func areSpans(text string, most int) bool {
	for _, s := range spanText.FindAllString(text, -1) {
		n := numbersOf(s)
		if len(n) == 2 && n[0] >= n[1] || n[len(n)-1] > most {
			return false
		}
	}
	return true
}

// split returns the lines of a text, without their ends.
func split(text []byte) []string {
	return strings.Split(strings.TrimSuffix(string(text), "\n"), "\n")
}

func isCountFile(file []byte) bool {
	if !countText.Match(file) {
		return false
	}
	all := split(file)
	pairs := "abcd"[:numbersOf(all[0])[0]]
	for _, l := range all[1:] {
		many := 0
		for _, r := range run.FindAllString(l, -1) {
			many += append(numbersOf(r), 1)[0]
		}
		// Two runs of one pair, one behind the other, would be one.
		if many > 6 || twice.MatchString(l) || strings.Trim(l, pairs+"-23456") != "" {
			return false
		}
	}
	return true
}

func isRelaysFile(file []byte) bool {
	if !relaysText.Match(file) {
		return false
	}
	all := split(file)
	return numbersOf(all[0])[0] <= 60 && areSpans(strings.Join(all[1:], " "), 600)
}

func isSprintsFile(file []byte) bool {
	if !sprintsText.Match(file) {
		return false
	}
	all := split(file)
	first := numbersOf(all[0])
	pairs, points := first[0], first[1:]
	if len(points) > 0 && points[0] > 50 || !slices.IsSortedFunc(points, func(a, b int) int { return b - a }) {
		return false
	}
	for _, l := range all[1:] {
		n := numbersOf(l)
		if strings.Contains(l, ">") && (n[0] == n[1] || max(n[0], n[1]) >= pairs) {
			return false
		}
		if strings.Contains(l, "@") && (n[0] >= pairs || !areSpans(l[2:], pairs-1)) {
			return false
		}
	}
	return true
}

// basedNumbers returns the numbers that bytes are, and whether each has just one form and is not great.
func basedNumbers(file []byte) ([]int, bool) {
	var all []int
	for len(file) > 0 {
		n, size := binary.Uvarint(file)
		if size <= 0 || n > 1<<20 || size > 1 && file[size-1] == 0 {
			return nil, false
		}
		all, file = append(all, int(n)), file[size:]
	}
	return all, true
}

func isFinesFile(file []byte) bool {
	if len(file) < 2 || file[0] != 70 || !bytes.Equal(closed(file[:len(file)-1]...), file) {
		return false
	}
	n, well := basedNumbers(file[1 : len(file)-1])
	if !well || len(n) < 3 || n[0] > 4 || len(n) < 3+4*n[0] {
		return false
	}
	rules, riders, offences := n[1:1+4*n[0]], n[1+4*n[0]], n[3+4*n[0]:]
	if riders != 2 && riders != 4 && riders != 6 || n[2+4*n[0]] > 5 || len(offences) != 4*n[2+4*n[0]] {
		return false
	}
	for r := range slices.Chunk(rules, 4) {
		if max(r[0], r[1], r[2]) > 1000 || r[3] > 144 {
			return false
		}
	}
	for o := range slices.Chunk(offences, 4) {
		if o[0] >= n[0] || o[1] == 0 || o[1] >= 1<<riders || o[2]+o[3] > 144 || o[3] > 2 {
			return false
		}
	}
	return true
}

// told tests that bytes are read just if they are a file, and that what is read is written with the same bytes. It returns whether they are.
func (f files[T]) told(t *testing.T, file []byte) bool {
	t.Helper()
	if !f.isFile(file) {
		want := api.ErrForm
		if f.name == "fines" && len(file) > 0 && closed(file...)[len(file)] != 0 {
			want = api.ErrClash
		}
		f.refuses(t, file, want)
		return false
	}
	thing, e := f.read(file)
	if again, _ := f.write(thing); e != api.OK || !bytes.Equal(again, file) || !bytes.Equal(f.form(thing), file) {
		t.Errorf("%s %q: %+v %v, %q", f.name, file, thing, e, again)
	}
	return true
}

// middles goes through all texts of at most so many of some parts.
func middles(parts []string, most int, try func(middle string)) {
	try("")
	if most == 0 {
		return
	}
	for _, part := range parts {
		middles(parts, most-1, func(rest string) { try(part + rest) })
	}
}

// bytewise returns the bytes of a text, each as a part.
func bytewise(text string) []string { return strings.Split(text, "") }

// among tests that so many of all texts with a beginning, at most so many parts, and an end are files, and are read, and no others.
func among[T any](t *testing.T, f files[T], want int, beginning string, parts []string, most int, end string) {
	t.Helper()
	found := map[string]bool{}
	middles(parts, most, func(middle string) {
		file := []byte(beginning + middle + end)
		if f.name == "fines" {
			file = closed(file...)
		}
		if f.told(t, file) {
			found[string(file)] = true
		}
	})
	if len(found) != want {
		t.Errorf("%s %q %q %q: %v files, not %v", f.name, beginning, parts, end, len(found), want)
	}
}

// P14.1, P14.2, P14.5: of all texts of a few bytes just those are read that the chapter defines. How many these are was counted by hand.
func TestAllFewTexts(t *testing.T) {
	c, r, s := counts(), relays(), sprints()
	among(t, c, 4, "pairs ", bytewise("-+0123456789"), 2, "\n-\n")
	// - a b; ab ba 2a 2b; aba bab 2ab 2ba a2b b2a; and two sheets of one byte each.
	among(t, c, 3+4+6+3*3, "pairs 2\n", bytewise("abc-12\n"), 4, "")
	// - a 2a 3a 4a 5a 6a.
	among(t, c, 7, "pairs 1\n", bytewise("aAb-0123456789\n"), 3, "")
	// Of 1 to 4 sheets: each is - or a.
	among(t, c, 2+4+8+16, "pairs 4\n", list("-\n", "a\n", "\n"), 5, "")

	among(t, r, 61, "rest ", bytewise("-+0123456789 "), 3, "\n")
	among(t, r, 2, "rest 0\n", bytewise("-+0123456789"), 2, " on 0 0 off 0 0\n")
	among(t, r, 6, "rest 7\n", list("1 on 2..3 4 off 5 6..7\n", "\n", " "), 6, "")
	for _, ends := range [][2]string{{"0 on ", " 0 off 0 0"}, {"0 on 0 ", " off 0 0"}, {"0 on 0 0 off ", " 0"}, {"0 on 0 0 off 0 ", ""}} {
		// Numbers of one digit, two, and three; 0..1 and the like, and 0..10 and the like.
		among(t, r, 4+12+17+6+48, "rest 0\n"+ends[0], bytewise("0169."), 5, ends[1]+"\n")
	}

	among(t, s, 6, "pairs ", bytewise("-+0123456789"), 2, " points\n")
	// None; one digit, two; two of one digit, and one of two digits and one of one.
	among(t, s, 1+3+4+6+12, "pairs 2 points", bytewise(" 015+-"), 5, "\n")
	among(t, s, 7, "pairs 1 points", list(" 3", " ", "3 "), 7, "\n")
	// Nothing, who was ahead of whom, and who was where.
	among(t, s, 1+6+9, "pairs 3 points\nsprint\n", bytewise("0123>@.\n"), 4, "")
	among(t, s, 3+3, "pairs 3 points\nsprint\n1@", bytewise("0123."), 4, "\n")
	// No sprint, one with 0 to 3 lines, or with 0 to 2 if it is double, and two with at most one line, or one that is double.
	among(t, s, 1+10+6+1+6, "pairs 2 points\n", list("sprint", " double", "\n", "0>1\n", "0@1\n", " "), 5, "")
	among(t, s, 9, "pairs 2 points\nsprint\n", list("0>1\n", ">\n"), 9, "")
	among(t, s, 7, "pairs 2 points\nsprint\n", list("0@1\n", "@\n"), 7, "")
	among(t, s, 5, "pairs 2 points\n", list("sprint\n", "double\n"), 6, "")
}

// P14.1, P14.2, P14.5: of all bytes in which of each bit an even number is set just those are read that the chapter defines. How many these are was counted by hand.
func TestAllFewBytes(t *testing.T) {
	f := fines()
	// No rules and offences, and 2, 4 or 6 riders; also if all may be otherwise.
	among(t, f, 3, "F\x00", bytewise("\x00\x01\x02\x03\x04\x05\x06\x07\x08\x09"), 3, "")
	among(t, f, 3, "", bytewise("EFG\x00\x01\x02\x04\x06"), 5, "")
	// One rule: all numbers of one byte, or one of them 128 or 256, but for the window, which cannot be 256.
	among(t, f, 81+3*2*27+27, "F\x01", list("\x00", "\x01", "\x02", "\x80"), 7, "")
	// One offence: by 1, 2 or 3, from 0 to 4, or from 143 or 144.
	among(t, f, 3*5*3+3*(2+1), "F\x01\x00\x00\x00\x00\x02\x01", list("\x00", "\x01", "\x02", "\x03", "\x04", "\x8f", "\x90"), 5, "")
	// Coins from 128 to 1000, hours from 128 to 144, and 63 sets of riders.
	for digit := range 256 {
		for great := range 256 {
			two := string([]byte{byte(digit), byte(great)})
			many := [2]int{}
			if n := digit&127 + great<<7; digit > 127 && great > 0 && great < 128 {
				many = [2]int{b2i(n <= 1000), b2i(n <= 144)}
			}
			among(t, f, many[0], "F\x01", nil, 0, two+"\x00\x00\x00\x02\x00")
			among(t, f, many[0], "F\x01\x00\x00", nil, 0, two+"\x00\x02\x00")
			among(t, f, many[1], "F\x01\x00\x00\x00", nil, 0, two+"\x02\x00")
			among(t, f, many[1], "F\x01\x00\x00\x00\x00\x06\x01\x00\x3f", nil, 0, two+"\x00")
		}
		for riders := range list(2, 4, 6) {
			among(t, f, b2i(digit > 0 && digit < 4<<(2*riders)), "F\x01\x00\x00\x00\x00"+string([]byte{byte(2 + 2*riders)})+"\x01\x00"+string([]byte{byte(digit)}), nil, 0, "\x00\x00")
		}
	}
}

// b2i returns 1 if something is so, and 0 otherwise.
func b2i(so bool) int {
	if so {
		return 1
	}
	return 0
}

// edited returns a file with one place of it changed: with a byte left out, put in or changed, or with a line left out, written twice, or put elsewhere.
func edited(r *rand.Rand, file []byte) []byte {
	i := r.Intn(len(file))
	other := slices.Concat(file, []byte("0125ab-.>@ \n\x80\x01"))[r.Intn(len(file)+13)]
	all := bytes.SplitAfter(file, []byte("\n"))
	k, l := r.Intn(len(all)), r.Intn(len(all))
	switch r.Intn(6) {
	case 0:
		return slices.Delete(slices.Clone(file), i, i+1)
	case 1:
		return slices.Insert(slices.Clone(file), i, other)
	case 2:
		return slices.Replace(slices.Clone(file), i, i+1, other)
	case 3:
		return slices.Concat(slices.Delete(slices.Clone(all), k, k+1)...)
	case 4:
		return slices.Concat(slices.Insert(slices.Clone(all), l, all[k])...)
	}
	all[k], all[l] = all[l], all[k]
	return slices.Concat(all...)
}

// tellsEdited tests files that are changed in a few places, some of which are files still.
func tellsEdited[T any](t *testing.T, f files[T], seed int64) {
	r := rand.New(rand.NewSource(seed))
	well, others := 0, 0
	for range 6000 {
		was := f.form(f.random(r))
		file := was
		for range 1 + r.Intn(3) {
			if len(file) > 0 {
				file = edited(r, file)
			}
		}
		if f.name == "fines" && r.Intn(8) > 0 {
			file = closed(file[:max(0, len(file)-1)]...)
		}
		if !f.told(t, file) {
			others++
		} else if !bytes.Equal(file, was) {
			well++
		}
	}
	if well < 150 || others < 1000 {
		t.Error("too few for a test", f.name, well, others)
	}
}

// P14.2, P14.5: whatever is changed in files, just those are read that the chapter defines.
func TestEdited(t *testing.T) {
	tellsEdited(t, counts(), 1401)
	tellsEdited(t, relays(), 1402)
	tellsEdited(t, sprints(), 1403)
	tellsEdited(t, fines(), 1404)
}

// tellsWritten tests that what is valid is written as the chapter defines it.
func tellsWritten[T any](t *testing.T, f files[T], seed int64) {
	r := rand.New(rand.NewSource(seed))
	for range 2000 {
		thing := f.random(r)
		file := f.written(t, thing)
		if !bytes.Equal(file, f.form(thing)) || !f.isFile(file) {
			t.Errorf("%s %+v: %q", f.name, thing, file)
		}
	}
	if file := f.written(t, f.full); !bytes.Equal(file, f.form(f.full)) || !f.isFile(file) {
		t.Errorf("%s %+v: %q", f.name, f.full, file)
	}
}

// P14.1: what is valid is written as the chapter defines it.
func TestWritten(t *testing.T) {
	tellsWritten(t, counts(), 1405)
	tellsWritten(t, relays(), 1406)
	tellsWritten(t, sprints(), 1407)
	tellsWritten(t, fines(), 1408)
}

// restorable returns all bytes of fines that are the same but for that at an index, as the reference tells them.
func restorable(file []byte, at int) [][]byte {
	var all [][]byte
	for b := range 256 {
		other := slices.Clone(file)
		other[at] = byte(b)
		if isFinesFile(other) {
			all = append(all, other)
		}
	}
	return all
}

// P14.3: of all bytes that can have been at an index at most one makes bytes of fines, and this one is restored.
func TestRestoreEdited(t *testing.T) {
	r := rand.New(rand.NewSource(1409))
	well, others := 0, 0
	for range 400 {
		file := finesForm(randomFines(r))
		if r.Intn(2) == 0 {
			file = edited(r, file)
		}
		for at := range file {
			whole, e := book.Restore(file, at)
			want := restorable(file, at)
			if len(want) > 1 {
				t.Fatalf("%v %v: %v", file, at, want)
			}
			if len(want) == 0 {
				others++
				if len(whole) != 0 || e != api.ErrForm {
					t.Errorf("%v %v: %v %v", file, at, whole, e)
				}
				continue
			}
			well++
			if !bytes.Equal(whole, want[0]) || e != api.OK {
				t.Errorf("%v %v: %v %v, not %v", file, at, whole, e, want[0])
			}
		}
	}
	if well < 1000 || others < 1000 {
		t.Error("too few for a test", well, others)
	}
}

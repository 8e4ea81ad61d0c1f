package book

import (
	"slices"

	"lapworks/api"
)

// letters are how the pairs are written on sheets.
var letters = [api.CountPairs]byte{'a', 'b', 'c', 'd'}

// pairsByLetter returns whose each letter is.
func pairsByLetter() map[byte]int {
	pairs := map[byte]int{}
	for pair, letter := range letters {
		pairs[letter] = pair
	}
	return pairs
}

// countFiles is the kind of files of counts.
func countFiles() kind[api.Count] { return kind[api.Count]{isCount, countText, (*eye).count} }

// countText returns the text of a valid count.
func countText(c api.Count) string {
	text := joined("pairs ", c.Pairs, "\n")
	for _, sheet := range c.Sheets {
		text += joined(sheetText(sheet), "\n")
	}
	return text
}

// sheetText returns the text of a sheet, without the end of its line.
func sheetText(sheet []int) string {
	if len(sheet) == 0 {
		return "-"
	}
	text := ""
	for len(sheet) > 0 {
		r := firstRun(sheet)
		text += r.text()
		sheet = sheet[r.often:]
	}
	return text
}

// run is a pair, and how often it passes, one time behind the other.
type run struct{ pair, often int }

// firstRun returns the run with which a sheet begins.
func firstRun(sheet []int) run {
	often := slices.IndexFunc(sheet, func(pair int) bool { return pair != sheet[0] })
	if often < 0 {
		often = len(sheet)
	}
	return run{sheet[0], often}
}

// text returns the text of a run.
func (r run) text() string {
	if r.often == 1 {
		return joined(letters[r.pair])
	}
	return joined(r.often, letters[r.pair])
}

// count reads a count.
func (e *eye) count() api.Count {
	e.pass("pairs ")
	pairs := e.number()
	e.pass("\n")
	return api.Count{Pairs: pairs, Sheets: slices.Collect(before(e.isDone, e.sheet))}
}

// sheet reads the line of a sheet.
func (e *eye) sheet() []int {
	if e.sees("-\n") {
		return nil
	}
	var sheet []int
runs:
	for r := range before(e.lineEnds, e.run) {
		for range r.often {
			if len(sheet) > api.CountPassings {
				// These are too many already, and could be far more than there is memory for.
				break runs
			}
			sheet = append(sheet, r.pair)
		}
	}
	return sheet
}

// run reads a run.
func (e *eye) run() run {
	often := 1
	if e.isAtNumber() {
		often = e.number()
	}
	pair, found := pairsByLetter()[e.letter()]
	require(found, api.ErrForm)
	return run{pair, often}
}

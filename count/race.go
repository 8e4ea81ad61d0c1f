package count

import "cmp"

// race is the pairs in the order in which they pass the line.
type race []int

// nobody stands for the pair of a passing that a race is too short to have.
const nobody = -1

// at returns whose passing has a number.
func (r race) at(passing int) int {
	if passing >= len(r) {
		return nobody
	}
	return r[passing]
}

// laps returns how often a pair passes.
func (r race) laps(pair int) int {
	laps := 0
	for _, p := range r {
		if p == pair {
			laps++
		}
	}
	return laps
}

// errors returns how many errors a sheet has by the race, which has to be at least as long.
func (r race) errors(sheet []int) int {
	if len(r) == 0 {
		return 0
	}
	var all []int
	for _, h := range happenings() {
		if !h.fits(r[0], sheet) {
			continue
		}
		later, rest := r[1:], sheet[h.written():]
		if len(later) >= len(rest) {
			all = append(all, h.errors()+later.errors(rest))
		}
	}
	return least(all[0], all[1:]...)
}

// after returns the race with a passing of the pair before all others. Races share what can follow a passing, so that it must not be changed in place.
func (r race) after(pair int) race {
	longer := make(race, len(r)+1)
	longer[0] = pair
	copy(longer[1:], r)
	return longer
}

// duel is two pairs that are held against each other.
type duel struct{ pair, other int }

// isOf returns whether the duel is of two among so many pairs.
func (d duel) isOf(pairs int) bool {
	return numbered(pairs, d.pair, d.other) && d.pair != d.other
}

// lead returns by how many laps the pair is ahead of the other one.
func (d duel) lead(r race) int {
	return r.laps(d.pair) - r.laps(d.other)
}

// side returns 1 if the pair has more laps than the other one, -1 if it has fewer, and 0 if both have as many.
func (d duel) side(r race) int {
	return cmp.Compare(d.lead(r), 0)
}

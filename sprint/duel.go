package sprint

// duel is two pairs that are held against each other.
type duel struct{ first, second int }

// duelOf returns the duel of two pairs.
func duelOf(pairs [2]int) duel { return duel{pairs[0], pairs[1]} }

// turned returns the duel of the same pairs, held the other way round.
func (d duel) turned() duel { return duel{d.second, d.first} }

// isOf returns whether the duel is of two among so many pairs.
func (d duel) isOf(pairs int) bool {
	return numbered(pairs, d.first) && numbered(pairs, d.second) && d != d.turned()
}

package relay

import "lapworks/api"

// table is by how many minutes each moment comes at most after each other one. If it cannot be made shorter, each of these numbers is that of a truth.
type table [start + 1][start + 1]int

// table returns the shortest table, if nothing was written but a set of entries. It gives up if there is no truth.
func (n notes) table(entries int) *table {
	t := widest()
	for b := range n.bounds {
		from, to := b.moments()
		t[from][to] = min(t[from][to], b.most(entries))
	}
	t = shortest(t)
	for m := range t {
		// Nothing comes before itself.
		require(t[m][m] >= 0, api.ErrClash)
	}
	return &t
}

// canBe returns whether there is a truth if nothing was written but a set of entries.
func (n notes) canBe(entries int) bool {
	_, e := answer(func() *table { return n.table(entries) })
	return e != api.ErrClash
}

// widest returns what is known of any minutes: that no two of them are further apart than the first and the last one.
func widest() table {
	var t table
	for from := range t {
		for to := range t[from] {
			if from != to {
				t[from][to] = api.RelayMinutes
			}
		}
	}
	return t
}

// shortest returns a table made as short as it can be. A moment below itself then shows that not all of it can be so.
func shortest(t table) table {
	var detours []func(table) table
	for way := range t {
		detours = append(detours, func(t table) table { return t.by(moment(way)) })
	}
	return changed(t, detours...)
}

// by returns the table in which nothing is longer than it is by way of a moment.
func (t table) by(way moment) table {
	for from := range t {
		for to := range t[from] {
			t[from][to] = min(t[from][to], t[from][way]+t[way][to])
		}
	}
	return t
}

// changed returns what becomes of a thing by all changes, one after the other.
func changed[T any](thing T, changes ...func(T) T) T {
	for _, change := range changes {
		thing = change(thing)
	}
	return thing
}

// between returns how many minutes a moment comes after another one.
func (t *table) between(from, to moment) api.Span {
	return api.Span{Lo: -t[to][from], Hi: t[from][to]}
}

// minutes returns in which minutes a moment can be.
func (t *table) minutes(m moment) api.Span {
	return t.between(start, m)
}

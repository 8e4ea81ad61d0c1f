package relay

import "lapworks/api"

// judges is how many judges there are.
const judges = 2

// moment is the number of a beginning, or an end, of a stint, or start.
type moment int

// start is the moment of the minute 0. It comes behind those of all stints.
const start = moment(2 * api.RelayStints)

// on returns the beginning of a stint, and off its end.
func on(stint int) moment  { return moment(2 * stint) }
func off(stint int) moment { return moment(2*stint + 1) }

// bound is by how many minutes one moment comes at most after another one.
type bound interface {
	// moments returns both moments: the second one comes at most so many minutes after the first one.
	moments() (from, to moment)
	// most returns how many minutes these are, if nothing was written but a set of entries.
	most(entries int) int
}

// rule is a bound that holds whatever was written.
type rule struct {
	from, to moment
	minutes  int
}

func (b rule) moments() (from, to moment) { return b.from, b.to }

func (b rule) most(entries int) int { return b.minutes }

// written is a bound that holds, as a rule does, but only if the entry with a number was written.
type written struct {
	rule
	number int
}

func (b written) most(entries int) int {
	if entries>>b.number&1 == 0 {
		return api.RelayMinutes
	}
	return b.minutes
}

// atMost returns that a moment comes at most so many minutes after another one.
func atMost(from, to moment, minutes int) rule { return rule{from, to, minutes} }

// atLeast returns that a moment comes at least so many minutes after another one.
func atLeast(from, to moment, minutes int) rule { return rule{to, from, -minutes} }

// entry is where a judge wrote something: of which moment, and which judge.
type entry struct {
	moment moment
	judge  int
}

// number returns the number of the entry.
func (e entry) number() int { return judges*int(e.moment) + e.judge }

// notes is relays, with what was written in each entry.
type notes struct {
	relays api.Relays
	spans  map[entry]api.Span
}

// notesOf returns the notes of relays.
func notesOf(r api.Relays) notes {
	spans := map[entry]api.Span{}
	for stint, s := range r.Stints {
		for judge := range judges {
			spans[entry{on(stint), judge}] = s.On[judge]
			spans[entry{off(stint), judge}] = s.Off[judge]
		}
	}
	return notes{r, spans}
}

// all returns the set of all entries.
func (n notes) all() int { return 1<<len(n.spans) - 1 }

// bounds yields all bounds, those of one stint after those of another one.
func (n notes) bounds(yield func(bound) bool) {
	for stint := range n.relays.Stints {
		for _, b := range append(n.rules(stint), n.entries(stint)...) {
			if !yield(b) {
				return
			}
		}
	}
}

// rules returns what holds of a stint whatever was written of it.
func (n notes) rules(stint int) []bound {
	rules := []bound{atLeast(start, on(stint), 0), atLeast(on(stint), off(stint), 1)}
	if stint > 0 {
		rules = append(rules, atLeast(on(stint-1), on(stint), 1))
	}
	if former, found := n.former(stint); found {
		rules = append(rules, atLeast(off(former), on(stint), n.relays.Rest))
	}
	return rules
}

// former returns the last stint before one that is of the same rider, and whether there is one.
func (n notes) former(stint int) (former int, found bool) {
	for i := stint - 1; i >= 0; i-- {
		if n.relays.Stints[i].Rider == n.relays.Stints[stint].Rider {
			return i, true
		}
	}
	return 0, false
}

// entries returns what was written of a stint.
func (n notes) entries(stint int) []bound {
	var all []bound
	for _, m := range [...]moment{on(stint), off(stint)} {
		for judge := range judges {
			e := entry{m, judge}
			s := n.spans[e]
			all = append(all, written{atLeast(start, m, s.Lo), e.number()}, written{atMost(start, m, s.Hi), e.number()})
		}
	}
	return all
}

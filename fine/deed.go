package fine

// deed is an offence that is known: of which kind it is, its number, and who did it, in which hour.
type deed struct{ kind, number, rider, hour int }

// before returns whether a deed comes before another one.
func (d deed) before(other deed) bool {
	if d.hour != other.hour {
		return d.hour < other.hour
	}
	return d.number < other.number
}

// deeds returns all deeds of a kind that a rider can have done.
func (l ledger) deeds(kind, rider int) []deed {
	var all []deed
	for number, o := range l.List {
		if o.Kind != kind || o.Riders>>rider&1 == 0 {
			continue
		}
		for hour := o.Hours.Lo; hour <= o.Hours.Hi; hour++ {
			all = append(all, deed{kind, number, rider, hour})
		}
	}
	return all
}

package mate

// circle is so many people, and which two of them can ride together.
type circle struct {
	people   int
	together func(two couple) bool
}

// all returns the set of all people.
func (c circle) all() set { return setOf(c.people) }

// partners returns the set of all who can ride together with a person.
func (c circle) partners(person int) set {
	var found set
	for other := range c.people {
		if other != person && c.together(coupleOf(person, other)) {
			found = union(found, one(other))
		}
	}
	return found
}

// best returns all best matches, the first one first.
func (c circle) best() []match {
	// There is at least one, as all can be alone.
	fewest := keeper[match]{weigh: match.alone}
matches:
	for m := range pairings(c.people) {
		for two := range m.couples {
			if !c.together(two) {
				continue matches
			}
		}
		fewest.keep(m.copied())
	}
	return fewest.kept
}

// left returns the sets of all who are alone in some best match, and of all who are in each.
func (c circle) left() [2]set {
	best := c.best()
	return [2]set{joined(best, match.left), c.all() &^ joined(best, match.paired)}
}

// joined returns the set of all who are in a set of one of some matches.
func joined(matches []match, of func(m match) set) set {
	var sets []set
	for _, m := range matches {
		sets = append(sets, of(m))
	}
	return union(sets...)
}

// proof is people who prove that a best match leaves so many alone.
type proof struct {
	people set
	alone  int
}

// proof returns the fewest people who prove how many a best match leaves alone.
func (c circle) proof() proof {
	alone := c.best()[0].alone()
	fewest := keeper[set]{weigh: set.size}
	for gone := range c.all() + 1 {
		if c.odd(c.all()&^gone)-gone.size() == alone {
			fewest.keep(gone)
		}
	}
	// There always are such people; the least ones come first.
	return proof{fewest.kept[0], alone}
}

// odd returns how many groups of some people, without all others, are of an odd number of people.
func (c circle) odd(people set) int {
	odd := 0
	for _, group := range c.groups(people) {
		odd += group.size() % 2
	}
	return odd
}

// groups returns the groups of some people, without all others.
func (c circle) groups(people set) []set {
	var groups []set
	for person := range c.people {
		if !people.has(person) {
			continue
		}
		// All groups in which somebody can ride together with the person become one.
		own, partners := one(person), c.partners(person)
		var others []set
		for _, group := range groups {
			if group&partners == 0 {
				others = append(others, group)
			} else {
				own = union(own, group)
			}
		}
		groups = append(others, own)
	}
	return groups
}

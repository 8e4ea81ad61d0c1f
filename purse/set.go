package purse

// set is some pairs: the bit n is set just if the pair n is one of them.
type set int

// firstOf returns the set of the first so many pairs.
func firstOf(pairs int) set { return 1<<pairs - 1 }

// one returns the set of one pair alone.
func one(pair int) set { return 1 << pair }

// has returns whether a pair is in the set.
func (s set) has(pair int) bool { return s&one(pair) != 0 }

// with returns the set with a pair more.
func (s set) with(pair int) set { return s | one(pair) }

package count

// happening is what can happen to a passing when a counter writes a sheet.
type happening interface {
	// fits returns whether it can have happened to a passing of the pair, if rest is what the sheet still has from there on.
	fits(pair int, rest []int) bool
	// written returns how many passings of the sheet come of it.
	written() int
	// errors returns how many errors it is.
	errors() int
}

// right is that a passing is written as it was.
type right struct{}

func (h right) fits(pair int, rest []int) bool {
	return len(rest) >= h.written() && rest[0] == pair
}

func (right) written() int { return 1 }

func (right) errors() int { return 0 }

// changed is that a passing is written, as right is, but as one of another pair.
type changed struct{ right }

func (h changed) fits(pair int, rest []int) bool {
	return len(rest) >= h.written() && rest[0] != pair
}

func (changed) errors() int { return 1 }

// missed is that a passing is not written.
type missed struct{}

func (missed) fits(pair int, rest []int) bool { return true }

func (missed) written() int { return 0 }

func (missed) errors() int { return 1 }

// happenings returns all that can happen to a passing.
func happenings() [3]happening {
	return [3]happening{right{}, changed{}, missed{}}
}

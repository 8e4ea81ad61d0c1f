package purse

// counter tells how much is counted of a pair that comes on a place.
type counter interface{ of(pair, place int) int }

// standing counts the places of some pairs.
type standing struct{ pairs set }

func (s standing) of(pair, place int) int {
	if !s.pairs.has(pair) {
		return 0
	}
	return place
}

// pay counts the coins that are due to some pairs.
type pay struct {
	standing
	fund fund
}

func (p pay) of(pair, place int) int {
	if !p.pairs.has(pair) {
		return 0
	}
	return p.fund.due(pair, place)
}

// sum returns how much some numbers are together.
func sum(numbers ...int) int {
	all := 0
	for _, n := range numbers {
		all += n
	}
	return all
}

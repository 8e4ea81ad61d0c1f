package fine

// counter tells how many coins are counted of what a deed costs.
type counter interface{ of(d deed, coins int) int }

// cost counts what some offences cost (a set), whoever did them.
type cost struct{ offences int }

func (c cost) of(d deed, coins int) int { return coins * (c.offences >> d.number & 1) }

// fined counts what a rider did.
type fined struct{ rider int }

func (f fined) of(d deed, coins int) int {
	if d.rider != f.rider {
		return 0
	}
	return coins
}

// payer counts what a rider pays: the greater half of what they did, and the lesser half of what their partner did.
type payer struct{ fined }

func (p payer) of(d deed, coins int) int {
	own, others := p.fined.of(d, coins), fined{p.partner()}.of(d, coins)
	return (own+1)/2 + others/2
}

// partner returns the rider's partner.
func (f fined) partner() int { return f.rider ^ 1 }

// counted returns how many coins are counted of a record.
func (r record) counted(c counter) int {
	var coins []int
	for d := range r.done {
		coins = append(coins, c.of(d, r.costs[d.number]))
	}
	return sum(coins...)
}

// sum returns how many coins there are together.
func sum(coins ...int) int {
	all := 0
	for _, n := range coins {
		all += n
	}
	return all
}

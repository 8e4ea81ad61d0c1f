package mate

import (
	"lapworks/api"
	"lapworks/rest"
)

// couple is two people, the one with the lesser number first.
type couple struct{ first, second int }

// coupleOf returns two people as a couple.
func coupleOf(a, b int) couple { return couple{min(a, b), max(a, b)} }

// crowd is valid mates, with what is known so far of whether two of them suit.
type crowd struct {
	api.Mates
	known map[couple]int
}

// crowdOf returns the crowd of mates, of whom nothing is known so far.
func crowdOf(m api.Mates) crowd { return crowd{m, map[couple]int{}} }

// obstacles returns all that can keep two apart.
func (c crowd) obstacles(two couple) [3]obstacle {
	a, b := c.People[two.first], c.People[two.second]
	refused := set(a.Not).has(two.second) || set(b.Not).has(two.first)
	// The rest is valid, as the mates are.
	plans, _ := rest.Count(c.rest(two.first, two.second))
	return [...]obstacle{hasteOf(a.Speed, b.Speed, c.Apart), veto{refused}, unrest{veto{plans == 0}}}
}

// rest returns the rest of two people.
func (c crowd) rest(a, b int) api.Rest {
	return api.Rest{Hours: c.Hours, Riders: [2]api.RestRider{c.People[a].Rider, c.People[b].Rider}}
}

// suit returns whether two suit: never, perhaps, always.
func (c crowd) suit(two couple) int {
	if known, found := c.known[two]; found {
		return known
	}
	// Of all obstacles only one is not the same in each truth, so that the greatest one decides.
	least := api.MateAlways
	for _, o := range c.obstacles(two) {
		least = min(least, o.suit())
	}
	c.known[two] = least
	return least
}

// why returns the kinds of all that keeps two apart in each truth.
func (c crowd) why(two couple) int {
	kinds := 0
	for _, o := range c.obstacles(two) {
		if o.suit() == api.MateNever {
			kinds |= o.kind()
		}
	}
	return kinds
}

// always returns whether two suit in each truth.
func (c crowd) always(two couple) bool { return c.suit(two) == api.MateAlways }

// perhaps returns whether two suit in some truth.
func (c crowd) perhaps(two couple) bool { return c.suit(two) != api.MateNever }

// circle returns who can ride together, surely or perhaps.
func (c crowd) circle(sure bool) circle {
	if sure {
		return circle{len(c.People), c.always}
	}
	return circle{len(c.People), c.perhaps}
}

// shared is how two share all hours: with so many changes, by a plan.
type shared struct {
	changes int
	plan    []int
}

// plan returns how two share all hours with the fewest changes. It gives up if they never suit.
func (c crowd) plan(a, b int) shared {
	require(c.perhaps(coupleOf(a, b)), api.ErrRefuse)
	changes, plan, e := rest.Fewest(c.rest(a, b))
	require(e == api.OK, e)
	return shared{changes, plan}
}

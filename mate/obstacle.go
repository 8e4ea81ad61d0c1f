package mate

import "lapworks/api"

// obstacle is something that can keep two people apart.
type obstacle interface {
	// kind returns what it is, of all that can keep two apart.
	kind() int
	// suit returns whether two suit if nothing else keeps them apart: never, perhaps, always.
	suit() int
}

// haste is the obstacle that one is too fast for the other one: by how much their speeds differ, at least and at most, and by how much they may.
type haste struct{ least, most, apart int }

// hasteOf returns the haste of two of such speeds.
func hasteOf(a, b api.Span, apart int) haste {
	// Where neither is surely the faster one both can be as fast.
	return haste{max(0, a.Lo-b.Hi, b.Lo-a.Hi), max(a.Hi-b.Lo, b.Hi-a.Lo), apart}
}

func (haste) kind() int { return api.MateFast }

func (h haste) suit() int {
	switch {
	case h.least > h.apart:
		return api.MateNever
	case h.most > h.apart:
		return api.MatePerhaps
	default:
		return api.MateAlways
	}
}

// veto is the obstacle that one does not ride with the other one. It is the same in each truth.
type veto struct{ said bool }

func (veto) kind() int { return api.MateNot }

func (v veto) suit() int {
	if v.said {
		return api.MateNever
	}
	return api.MateAlways
}

// unrest is the obstacle that the rules of rest forbid each plan. It is the same in each truth, too.
type unrest struct{ veto }

func (unrest) kind() int { return api.MateRest }

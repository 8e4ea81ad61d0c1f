package chase

import "lapworks/api"

// times is which times a pair can have. There is none if Lo is more than Hi.
type times struct {
	api.Span
	pair int
}

// timesOf returns the times of a pair with which all of its watches are right, if these can be wrong by so much. Without watches it can have any.
func timesOf(pair int, told []int, wrong int) times {
	t := times{api.Span{Lo: 0, Hi: api.ChaseTime + api.ChaseError}, pair}
	for _, time := range told {
		t.Lo = max(t.Lo, time-wrong)
		t.Hi = min(t.Hi, time+wrong)
	}
	return t
}

// canBe returns whether there is a time.
func (t times) canBe() bool { return t.Lo <= t.Hi }

// canLead returns whether the pair can come before another one.
func (t times) canLead(other times) bool {
	return t.Lo < other.Hi || t.Lo == other.Hi && t.pair < other.pair
}

// mustLead returns whether the pair surely comes before another one.
func (t times) mustLead(other times) bool { return !other.canLead(t) }

// behind returns which times are left if another pair comes just before this one, as soon as it can.
func (t times) behind(other times) times {
	t.Lo = max(t.Lo, other.Lo)
	if t.Lo == other.Lo && t.pair < other.pair {
		// With the same time it would come before the other one.
		t.Lo++
	}
	return t
}

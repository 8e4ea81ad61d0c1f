package book

import "lapworks/api"

// line is a line of something that was seen in a sprint.
type line interface {
	// text returns the text of the line, without its end.
	text() string
	// addTo adds what was seen to a sprint.
	addTo(s *api.Sprint)
}

// place is the line of a pair that was seen on some place of a span.
type place struct {
	pair int
	span api.Span
}

func (p place) text() string { return p.marked("@") }

func (p place) addTo(s *api.Sprint) {
	s.Places = append(s.Places, api.SprintPlace{Pair: p.pair, Place: p.span})
}

// marked returns the text with a mark between the pair and the span.
func (p place) marked(mark string) string { return joined(p.pair, mark, p.span) }

// ahead is the line of a pair that was seen ahead of another one, whose number alone is the span.
type ahead struct{ place }

func (a ahead) text() string { return a.marked(">") }

func (a ahead) addTo(s *api.Sprint) { s.Ahead = append(s.Ahead, [2]int{a.pair, a.span.Lo}) }

// linesOf returns the lines of what was seen in a sprint, in order.
func linesOf(s api.Sprint) []line {
	var lines []line
	for _, a := range s.Ahead {
		lines = append(lines, ahead{place{a[0], api.Span{Lo: a[1], Hi: a[1]}}})
	}
	for _, p := range s.Places {
		lines = append(lines, place{p.Pair, p.Place})
	}
	return lines
}

// line reads a line of something that was seen.
func (e *eye) line() line {
	pair := e.number()
	isPlace := e.sees("@")
	if !isPlace {
		e.pass(">")
	}
	p := place{pair, e.span()}
	e.pass("\n")
	if isPlace {
		return p
	}
	return ahead{p}
}

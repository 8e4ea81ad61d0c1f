package book

import (
	"slices"
	"strings"

	"lapworks/api"
)

// heading is how the first line of a sprint begins.
const heading = "sprint"

// sprintFiles is the kind of files of sprints.
func sprintFiles() kind[api.Sprints] {
	return kind[api.Sprints]{areSprints, sprintsText, (*eye).sprints}
}

// sprintsText returns the text of valid sprints.
func sprintsText(s api.Sprints) string {
	text := joined("pairs ", s.Pairs, " points")
	for _, points := range s.Points {
		text += joined(" ", points)
	}
	text += "\n"
	for _, sprint := range s.List {
		text += sprintText(sprint)
	}
	return text
}

// sprintText returns the text of a sprint.
func sprintText(s api.Sprint) string {
	text := heading
	if s.Double {
		text += " double"
	}
	text += "\n"
	for _, l := range linesOf(s) {
		text += joined(l.text(), "\n")
	}
	return text
}

// sprints reads sprints.
func (e *eye) sprints() api.Sprints {
	var s api.Sprints
	e.pass("pairs ")
	s.Pairs = e.number()
	e.pass(" points")
	s.Points = slices.Collect(before(e.lineEnds, e.points))
	s.List = slices.Collect(before(e.isDone, e.sprint))
	return s
}

// points reads the points of a place.
func (e *eye) points() int {
	e.pass(" ")
	return e.number()
}

// sprint reads the lines of a sprint.
func (e *eye) sprint() api.Sprint {
	e.pass(heading)
	s := api.Sprint{Double: e.sees(" double")}
	e.pass("\n")
	for l := range before(e.sprintEnds, e.line) {
		l.addTo(&s)
	}
	return s
}

// sprintEnds returns whether no more lines of the sprint come.
func (e *eye) sprintEnds() bool { return e.isDone() || strings.HasPrefix(e.left, heading) }

package book

import (
	"slices"

	"lapworks/api"
)

// relayFiles is the kind of files of relays.
func relayFiles() kind[api.Relays] { return kind[api.Relays]{areRelays, relaysText, (*eye).relays} }

// relaysText returns the text of valid relays.
func relaysText(r api.Relays) string {
	text := joined("rest ", r.Rest, "\n")
	for _, s := range r.Stints {
		text += joined(s.Rider, " on ", s.On[0], " ", s.On[1], " off ", s.Off[0], " ", s.Off[1], "\n")
	}
	return text
}

// relays reads relays.
func (e *eye) relays() api.Relays {
	e.pass("rest ")
	rest := e.number()
	e.pass("\n")
	return api.Relays{Rest: rest, Stints: slices.Collect(before(e.isDone, e.stint))}
}

// stint reads the line of a stint.
func (e *eye) stint() api.RelayStint {
	var s api.RelayStint
	s.Rider = e.number()
	e.pass(" on ")
	s.On = e.spans()
	e.pass(" off ")
	s.Off = e.spans()
	e.pass("\n")
	return s
}

// spans reads what both judges wrote.
func (e *eye) spans() [2]api.Span {
	first := e.span()
	e.pass(" ")
	second := e.span()
	return [2]api.Span{first, second}
}

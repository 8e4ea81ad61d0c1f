package book

import (
	"strconv"

	"lapworks/api"
)

// joined returns the text of parts, one behind the other: texts, letters, numbers and spans.
func joined(parts ...any) string {
	text := ""
	for _, part := range parts {
		switch p := part.(type) {
		case string:
			text += p
		case byte:
			text += string([]byte{p})
		case int:
			text += strconv.Itoa(p)
		case api.Span:
			text += joined(p.Lo)
			if p.Hi != p.Lo {
				text += joined("..", p.Hi)
			}
		}
	}
	return text
}

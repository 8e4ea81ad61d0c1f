package book

import (
	"iter"
	"strconv"
	"strings"

	"lapworks/api"
)

// digits are the bytes of numbers in texts.
const digits = "0123456789"

// eye looks at a file, from its beginning on: it keeps what is left of it. It gives up where that cannot be read.
type eye struct{ left string }

// isDone returns whether nothing is left.
func (e *eye) isDone() bool { return e.left == "" }

// lineEnds returns whether the line ends here, and goes on to the next one if it does.
func (e *eye) lineEnds() bool { return e.sees("\n") }

// sees returns whether something comes next, and goes on behind it if it does.
func (e *eye) sees(next string) bool {
	left, found := strings.CutPrefix(e.left, next)
	e.left = left
	return found
}

// pass goes on behind something that has to come next.
func (e *eye) pass(next string) { require(e.sees(next), api.ErrForm) }

// letter reads one byte.
func (e *eye) letter() byte {
	require(!e.isDone(), api.ErrForm)
	first := e.left[0]
	e.left = e.left[1:]
	return first
}

// isAtNumber returns whether a number comes next.
func (e *eye) isAtNumber() bool { return strings.IndexAny(e.left, digits) == 0 }

// number reads a number in decimal digits.
func (e *eye) number() int {
	behind := strings.TrimLeft(e.left, digits)
	number, wrong := strconv.Atoi(e.left[:len(e.left)-len(behind)])
	require(wrong == nil, api.ErrForm)
	e.left = behind
	return number
}

// span reads a span.
func (e *eye) span() api.Span {
	lo := e.number()
	hi := lo
	if e.sees("..") {
		hi = e.number()
	}
	return api.Span{Lo: lo, Hi: hi}
}

// before returns an iterator over all things that are read before an end. To read one goes on, or gives up.
func before[T any](isEnd func() bool, readOne func() T) iter.Seq[T] {
	return func(yield func(thing T) bool) {
		for !isEnd() {
			if !yield(readOne()) {
				return
			}
		}
	}
}

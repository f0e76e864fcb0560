package wide

import (
	"iter"

	"furrow/api"
	"furrow/utf"
)

const (
	firstHigh   = 0xD800
	firstLow    = 0xDC00
	lastLow     = 0xDFFF
	firstPaired = 0x10000 // the first character that has a pair
	lowBits     = 10      // of a character that a low surrogate has
	lowMask     = 1<<lowBits - 1
	highOffset  = firstHigh - firstPaired>>lowBits // from a character's upper bits to its high surrogate
)

func isHigh(unit uint16) bool {
	return unit >= firstHigh && unit < firstLow
}

func isLow(unit uint16) bool {
	return unit >= firstLow && unit <= lastLow
}

// isPaired tells whether r is a character that one unit can't hold.
func isPaired(r rune) bool {
	return r >= firstPaired && utf.Scalar(r)
}

func appendUnits(units []uint16, r rune) []uint16 {
	if high, low, ok := Split(r); ok {
		return append(units, high, low)
	}
	if !utf.Scalar(r) {
		r = api.Replaced
	}
	return append(units, uint16(r))
}

// alone is what a unit stands for that is in no pair.
func alone(unit uint16) rune {
	if isHigh(unit) || isLow(unit) {
		return api.Replaced
	}
	return rune(unit)
}

// first is the character with which u, which is not empty, begins.
func first(u []uint16) rune {
	if len(u) > 1 {
		if r, ok := Join(u[0], u[1]); ok {
			return r
		}
	}
	return alone(u[0])
}

// last is the character with which u, which is not empty, ends.
//
// No unit is a high surrogate and a low one, so pairs do not overlap: two units that are a pair at the end are one from the front as well.
func last(u []uint16) rune {
	end := len(u) - 1
	if end > 0 {
		if r, ok := Join(u[end-1], u[end]); ok {
			return r
		}
	}
	return alone(u[end])
}

func forward(u []uint16) iter.Seq2[int, rune] {
	return func(yield func(int, rune) bool) {
		for at := 0; at < len(u); {
			r := first(u[at:])
			if !yield(at, r) {
				return
			}
			at += Width(r)
		}
	}
}

func backward(u []uint16) iter.Seq2[int, rune] {
	return func(yield func(int, rune) bool) {
		for end := len(u); end > 0; {
			r := last(u[:end])
			end -= Width(r)
			if !yield(end, r) {
				return
			}
		}
	}
}

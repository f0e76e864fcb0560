package wide_test

import (
	"iter"
	"slices"

	"furrow/trial"
)

// The units at which something changes.
var edgeUnits = []uint16{0, 0x61, 0x7FFF, 0xD7FF, 0xD800, 0xDBFF, 0xDC00, 0xDFFF, 0xE000, 0xFEFF, 0xFFFD, 0xFFFE, 0xFFFF}

// Fewer of them, for longer lists.
var fewUnits = []uint16{0x61, 0xD83D, 0xDBFF, 0xDC00, 0xDE00, 0xFFFD}

// The numbers at which something changes, and some that are far off.
var edgeRunes = []rune{-1 << 31, -0x10000, -1, 0, 0x61, 0xE9, 0xD7FF, 0xD800, 0xDBFF, 0xDC00, 0xDFFF, 0xE000, 0xFEFF, 0xFFFD, 0xFFFE, 0xFFFF, 0x10000, 0x103FF, 0x10400, 0x1F600, 0x10FFFF, 0x110000, 0x1FFFFF, 1<<31 - 1}

// lists tells lists of all sorts of units: all of up to three of the ones at which something changes, all of four and five of fewer, and some long ones.
func lists() iter.Seq[[]uint16] {
	return func(yield func([]uint16) bool) {
		for _, all := range []iter.Seq[[]uint16]{
			trial.Words(edgeUnits, 0), trial.Words(edgeUnits, 1), trial.Words(edgeUnits, 2), trial.Words(edgeUnits, 3),
			trial.Words(fewUnits, 4), trial.Words(fewUnits, 5), slices.Values(longLists()),
		} {
			for u := range all {
				if !yield(u) {
					return
				}
			}
		}
	}
}

// longLists are lists of many units: by a plain rule, so that they are the same each time.
func longLists() [][]uint16 {
	var out [][]uint16
	next := trial.Numbers()
	for size := range 64 {
		u := make([]uint16, size)
		for i := range u {
			number := next()
			if u[i] = uint16(number >> 8); number>>30 != 0 {
				u[i] = 0xD800 | u[i]&0x7FF // so that most are surrogates
			}
		}
		out = append(out, u)
	}
	return out
}

// plain is what the chapter's words say that u stands for, each character with its unit place.
func plain(u []uint16) []trial.Pair[int, rune] {
	var out []trial.Pair[int, rune]
	for at := 0; at < len(u); at++ {
		start, r := at, rune(u[at])
		switch {
		case r < 0xD800 || r > 0xDFFF:
		case r <= 0xDBFF && at+1 < len(u) && u[at+1] >= 0xDC00 && u[at+1] <= 0xDFFF:
			at++
			r = 0x10000 + 0x400*(r-0xD800) + rune(u[at]) - 0xDC00
		default:
			r = 0xFFFD
		}
		out = append(out, trial.Pair[int, rune]{A: start, B: r})
	}
	return out
}

// runesOf are the characters of what plain tells.
func runesOf(all []trial.Pair[int, rune]) []rune {
	var out []rune
	for _, c := range all {
		out = append(out, c.B)
	}
	return out
}

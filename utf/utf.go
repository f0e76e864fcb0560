// Package utf is layer 1: bytes and characters, both ways, and what is neither. See shared/doc/01-utf.md.
package utf

import (
	"iter"

	"furrow/api"
)

// Scalar tells whether r is a character.
func Scalar(r rune) bool {
	return r >= 0 && r <= api.MaxRune && !isHalf(r)
}

// Width is how many bytes r's right sequence has; 0 of what is no character.
func Width(r rune) int {
	if !Scalar(r) {
		return 0
	}
	return bytesFor(r)
}

// Encode is the right sequences of l, one behind the other; FFFD's of what is no character.
func Encode(l ...rune) string {
	return string(l)
}

// Runes is what s stands for.
func Runes(s string) []rune {
	return []rune(s)
}

// Count is how many characters s stands for.
func Count(s string) int {
	count := 0
	for range s {
		count++
	}
	return count
}

// Mend is s with FFFD's right sequence in the place of each wrong byte.
func Mend(s string) string {
	return Encode(Runes(s)...)
}

// All tells the characters that s stands for, each with its byte place.
func All(s string) iter.Seq2[int, rune] {
	return func(yield func(int, rune) bool) {
		for at, r := range s {
			if !yield(at, r) {
				return
			}
		}
	}
}

// Back tells what All tells, from the last one on.
func Back(s string) iter.Seq2[int, rune] {
	return func(yield func(int, rune) bool) {
		for end := len(s); end > 0; {
			last := Last(s[:end])
			if !yield(last.Byte, last.Rune) {
				return
			}
			end = last.Byte
		}
	}
}

// Spots tells the characters that s stands for, each as a Spot.
func Spots(s string) iter.Seq[api.Spot] {
	return func(yield func(api.Spot) bool) {
		for at, r := range s {
			if !yield(spotAt(s, at, r)) {
				return
			}
		}
	}
}

// First is the first Spot of s; the zero Spot of the empty text.
func First(s string) api.Spot {
	for at, r := range s {
		return spotAt(s, at, r)
	}
	return api.Spot{}
}

// Last is the last Spot of s; the zero Spot of the empty text.
//
// No byte behind the first one of a right sequence can begin another, so a right sequence that ends the text is also met from the front: there is no need to go there.
func Last(s string) api.Spot {
	if s == "" {
		return api.Spot{}
	}
	at := lastLead(s)
	spot := First(s[at:])
	if at+spot.Width != len(s) {
		at = len(s) - 1
		spot = First(s[at:])
	}
	spot.Byte = at
	return spot
}

// Check is the byte place of the first wrong byte and why it is wrong; if there is none, how many bytes s has, and OK.
func Check(s string) (int, api.Errno) {
	wrong, found := firstWrong(s)
	if !found {
		return len(s), api.OK
	}
	return wrong.Byte, wrong.Code
}

// Strict is what s stands for, if no byte is wrong; else the first Spot that is.
func Strict(s string) ([]rune, *api.Spot) {
	wrong, found := firstWrong(s)
	if found {
		return nil, &wrong
	}
	return Runes(s), nil
}

// Parts is what s stands for by parts.
func Parts(s string) []rune {
	var parts []rune
	for _, r := range Pieces(s) {
		parts = append(parts, r)
	}
	return parts
}

// Pieces tells what s stands for by parts, each character with its bytes.
func Pieces(s string) iter.Seq2[string, rune] {
	return func(yield func(string, rune) bool) {
		end := 0
		for spot := range Spots(s) {
			if spot.Byte < end {
				continue // a wrong byte that the part ahead has already
			}
			end = spot.Byte + spot.Width
			if spot.Code != api.OK {
				end = spot.Byte + longestPart(s[spot.Byte:])
			}
			if !yield(s[spot.Byte:end], spot.Rune) {
				return
			}
		}
	}
}

package utf

import "furrow/api"

const longest = 4 // bytes of a sequence

func isHalf(r rune) bool {
	return r >= 0xD800 && r <= 0xDFFF
}

func isTail(b byte) bool {
	return b >= 0x80 && b <= 0xBF
}

// bytesFor is how many bytes the number takes, be it a character or not.
func bytesFor(number rune) int {
	switch {
	case number < 0x80:
		return 1
	case number < 0x800:
		return 2
	case number < 0x10000:
		return 3
	}
	return longest
}

// lead is how many bytes a sequence has that begins with b, and the bits that b gives to its number; 0 of a byte that begins none.
func lead(b byte) (int, rune) {
	switch {
	case b < 0x80:
		return 1, rune(b)
	case b < 0xC0:
		return 0, 0
	case b < 0xE0:
		return 2, rune(b & 0x1F)
	case b < 0xF0:
		return 3, rune(b & 0x0F)
	case b < 0xF8:
		return 4, rune(b & 0x07)
	}
	return 0, 0
}

// whyWrong is why the first byte of s, which is not empty, is wrong; OK, if s begins with a right sequence.
func whyWrong(s string) api.Errno {
	width, number := lead(s[0])
	if width == 0 {
		return api.ErrLead
	}
	for i := 1; i < width; i++ {
		if i == len(s) {
			return api.ErrCut
		}
		if !isTail(s[i]) {
			return api.ErrTail
		}
		number = number<<6 | rune(s[i]&0x3F)
	}
	return whyNoCharacter(number, width)
}

// whyNoCharacter is why the number may not be written in that many bytes; OK, if it may.
func whyNoCharacter(number rune, width int) api.Errno {
	switch {
	case bytesFor(number) < width:
		return api.ErrOver
	case isHalf(number):
		return api.ErrHalf
	case number > api.MaxRune:
		return api.ErrPast
	}
	return api.OK
}

// spotAt is the Spot of r, which a range over s tells at the byte place at.
func spotAt(s string, at int, r rune) api.Spot {
	if r == api.Replaced { // a wrong byte, or a right FFFD
		if code := whyWrong(s[at:]); code != api.OK {
			return api.Spot{Byte: at, Width: 1, Rune: r, Code: code}
		}
	}
	return api.Spot{Byte: at, Width: Width(r), Rune: r}
}

func firstWrong(s string) (api.Spot, bool) {
	for spot := range Spots(s) {
		if spot.Code != api.OK {
			return spot, true
		}
	}
	return api.Spot{}, false
}

// lastLead is where a right sequence that ends s, which is not empty, would begin.
func lastLead(s string) int {
	at := len(s) - 1
	for at > 0 && at > len(s)-longest && isTail(s[at]) {
		at--
	}
	return at
}

// longestPart is how wide the longest part is at the wrong byte with which s begins.
func longestPart(s string) int {
	if len(s) < 2 || !goOn(s[0], s[1]) {
		return 1
	}
	full, _ := lead(s[0])
	width := 2
	for width < full && width < len(s) && isTail(s[width]) {
		width++
	}
	return width
}

// goOn tells whether some right sequence begins with the two bytes. They alone settle whether a number can still come out that is long enough, no surrogate and not past the last one: behind them any tail will do.
func goOn(first, second byte) bool {
	switch first {
	case 0xE0:
		return second >= 0xA0 && second <= 0xBF
	case 0xED:
		return second >= 0x80 && second <= 0x9F
	case 0xF0:
		return second >= 0x90 && second <= 0xBF
	case 0xF4:
		return second >= 0x80 && second <= 0x8F
	}
	return first >= 0xC2 && first <= 0xF3 && isTail(second)
}

package wide

import (
	"strings"

	"furrow/api"
)

const (
	markUnit      = 0xFEFF
	highFirstMark = "\xFE\xFF"
	lowFirstMark  = "\xFF\xFE"
)

// Lay is two bytes for each unit, in that order; with mark, those of the mark ahead of all.
func Lay(o api.Order, mark bool, u ...uint16) (string, api.Errno) {
	if !isOrder(o) {
		return "", api.ErrArg
	}
	laid := make([]byte, 0, 2*len(u)+2)
	if mark {
		laid = appendBytes(laid, o, markUnit)
	}
	for _, unit := range u {
		laid = appendBytes(laid, o, unit)
	}
	return string(laid), api.OK
}

// Read is the units of s, and in which order they stood: the mark's, if s begins with one, else o.
func Read(o api.Order, s string) ([]uint16, api.Order, api.Errno) {
	if !isOrder(o) {
		return nil, 0, api.ErrArg
	}
	if len(s)%2 != 0 {
		return nil, 0, api.ErrOdd
	}
	o, s = cutMark(o, s)
	units := make([]uint16, 0, len(s)/2)
	for at := 0; at < len(s); at += 2 {
		units = append(units, unitOf(o, s[at], s[at+1]))
	}
	return units, o, api.OK
}

func isOrder(o api.Order) bool {
	return o == api.HighFirst || o == api.LowFirst
}

// cutMark is the order that the mark at the head of s says, and s without it; o and s, if there is none.
func cutMark(o api.Order, s string) (api.Order, string) {
	if rest, found := strings.CutPrefix(s, highFirstMark); found {
		return api.HighFirst, rest
	}
	if rest, found := strings.CutPrefix(s, lowFirstMark); found {
		return api.LowFirst, rest
	}
	return o, s
}

func appendBytes(laid []byte, o api.Order, unit uint16) []byte {
	high, low := byte(unit>>8), byte(unit)
	if o == api.LowFirst {
		return append(laid, low, high)
	}
	return append(laid, high, low)
}

func unitOf(o api.Order, one, two byte) uint16 {
	if o == api.LowFirst {
		one, two = two, one
	}
	unit := uint16(one)
	unit <<= 8
	unit |= uint16(two)
	return unit
}

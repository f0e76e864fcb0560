package wide

import (
	"iter"

	"furrow/api"
)

// UnitAt is the unit place of the character that begins at the byte place at; of the end, how many units there are.
func UnitAt(s string, at int) (int, api.Errno) {
	if at < 0 || at > len(s) {
		return 0, api.ErrArg
	}
	for start, unit := range starts(s) {
		if start == at {
			return unit, api.OK
		}
		if start > at {
			break
		}
	}
	return 0, api.ErrMidst
}

// ByteAt is the byte place of the character whose first unit stands at that unit place; of the end, how many bytes there are.
func ByteAt(s string, unit int) (int, api.Errno) {
	if unit < 0 {
		return 0, api.ErrArg
	}
	for at, start := range starts(s) {
		if start == unit {
			return at, api.OK
		}
		if start > unit {
			return 0, api.ErrMidst
		}
	}
	return 0, api.ErrArg // past the end
}

// starts tells the byte place and the unit place of each character of s, and behind them those of its end.
func starts(s string) iter.Seq2[int, int] {
	return func(yield func(int, int) bool) {
		unit := 0
		for at, r := range s {
			if !yield(at, unit) {
				return
			}
			unit += Width(r)
		}
		yield(len(s), unit)
	}
}

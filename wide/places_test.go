package wide_test

import (
	"math"
	"slices"
	"testing"

	"furrow/api"
	"furrow/trial"
	"furrow/wide"
)

// place is what a call that is asked for a place answers.
type place struct {
	at   int
	code api.Errno
}

func placeOf(at int, code api.Errno) place { return place{at, code} }

// asked is a place of a text, and what is to be answered.
type asked struct {
	s    string
	at   int
	want place
}

func checkAsked(t *testing.T, ask func(string, int) (int, api.Errno), cases []asked) {
	t.Helper()
	for _, c := range cases {
		if got := placeOf(ask(c.s, c.at)); got != c.want {
			t.Errorf("%x at %d: %v, not %v", c.s, c.at, got, c.want)
		}
	}
}

// 2.6
func TestOutside(t *testing.T) {
	cases := []asked{
		{"", 0, place{0, api.OK}},
		{"", 1, place{0, api.ErrArg}},
		{"", -1, place{0, api.ErrArg}},
		{"a", -1, place{0, api.ErrArg}},
		{"a", 2, place{0, api.ErrArg}},
		{"a", math.MinInt, place{0, api.ErrArg}},
		{"a", math.MaxInt, place{0, api.ErrArg}},
	}
	checkAsked(t, wide.UnitAt, cases)
	checkAsked(t, wide.ByteAt, cases)
}

// 2.6
func TestUnitAt(t *testing.T) {
	checkAsked(t, wide.UnitAt, []asked{
		{"\xf0\x9f\x98\x80a", 4, place{2, api.OK}},
		{"\xf0\x9f\x98\x80a", 2, place{0, api.ErrMidst}},
		{"\xf0\x9f\x98\x80a", 5, place{3, api.OK}},
		{"\xf0\x9f\x98\x80", 3, place{0, api.ErrMidst}},
		{"\xf0\x9f\x98\x80", 4, place{2, api.OK}},
		{"\xf0\x9f\x98", 1, place{1, api.OK}}, // wrong bytes are characters of one byte
		{"\xf0\x9f\x98", 2, place{2, api.OK}},
		{"\xf0\x9f\x98", 3, place{3, api.OK}},
		{fffd + "\xff", 1, place{0, api.ErrMidst}},
		{fffd + "\xff", 2, place{0, api.ErrMidst}},
		{fffd + "\xff", 3, place{1, api.OK}},
		{fffd + "\xff", 4, place{2, api.OK}},
	})
}

// 2.6
func TestByteAt(t *testing.T) {
	checkAsked(t, wide.ByteAt, []asked{
		{"\xf0\x9f\x98\x80a", 2, place{4, api.OK}},
		{"\xf0\x9f\x98\x80a", 1, place{0, api.ErrMidst}},
		{"\xf0\x9f\x98\x80a", 3, place{5, api.OK}},
		{"\xf0\x9f\x98\x80a", 4, place{0, api.ErrArg}},
		{"\xf0\x9f\x98\x80", 1, place{0, api.ErrMidst}},
		{"\xf0\x9f\x98\x80", 2, place{4, api.OK}},
		{"\xf0\x9f\x98\x80", 3, place{0, api.ErrArg}},
		{"\xf0\x9f\x98", 2, place{2, api.OK}},
		{fffd + "\xff", 1, place{3, api.OK}},
		{fffd + "\xff", 2, place{4, api.OK}},
	})
}

// 2.6, 2.9: every place of every text, and those around it.
func TestPlacesOfAll(t *testing.T) {
	for s := range trial.Texts() {
		units, bytes := allPlaces(s)
		checkPlaces(t, s, wide.UnitAt, units)
		checkPlaces(t, s, wide.ByteAt, bytes)
		if len(wide.FromText(s)) != len(bytes)-1 {
			t.Fatalf("%x: not %d units", s, len(bytes)-1)
		}
	}
}

// allPlaces is what each byte place should answer, and what each unit place, by a range over s.
func allPlaces(s string) (units, bytes []place) {
	midst := place{0, api.ErrMidst}
	units = slices.Repeat([]place{midst}, len(s)+1)
	for at, r := range s {
		units[at] = place{len(bytes), api.OK}
		bytes = append(bytes, place{at, api.OK})
		if r > 0xFFFF {
			bytes = append(bytes, midst)
		}
	}
	units[len(s)] = place{len(bytes), api.OK}
	return units, append(bytes, place{len(s), api.OK})
}

// checkPlaces asks for each place that there is, and for the two next to them.
func checkPlaces(t *testing.T, s string, ask func(string, int) (int, api.Errno), want []place) {
	t.Helper()
	for at := -1; at <= len(want); at++ {
		wanted := place{0, api.ErrArg}
		if at >= 0 && at < len(want) {
			wanted = want[at]
		}
		if got := placeOf(ask(s, at)); got != wanted {
			t.Fatalf("%x at %d: %v, not %v", s, at, got, wanted)
		}
	}
}

// 2.9
func TestPlacesLeadBack(t *testing.T) {
	for s := range trial.Texts() {
		checkLeadBack(t, s, len(s), wide.UnitAt, wide.ByteAt)
		checkLeadBack(t, s, len(wide.FromText(s)), wide.ByteAt, wide.UnitAt)
	}
}

// checkLeadBack asks there for each place up to end: what it answers rises, and back leads to where it was asked.
func checkLeadBack(t *testing.T, s string, end int, there, back func(string, int) (int, api.Errno)) {
	t.Helper()
	last := -1
	for at := range end + 1 {
		to, code := there(s, at)
		if code != api.OK {
			continue
		}
		if got := placeOf(back(s, to)); got != (place{at, api.OK}) {
			t.Fatalf("%x: from %d to %d, back to %v", s, at, to, got)
		}
		if to <= last {
			t.Fatalf("%x: %d behind %d", s, to, last)
		}
		last = to
	}
}

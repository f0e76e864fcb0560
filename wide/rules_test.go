package wide_test

import (
	"iter"
	"slices"
	"strings"
	"testing"

	"furrow/api"
	"furrow/trial"
	"furrow/wide"
)

var walks = map[string]func([]uint16) iter.Seq2[int, rune]{"Each": wide.Each, "Back": wide.Back}

// P0.1, 2.5: iterators that are left early and gone over again.
func TestIteratorsLeftEarly(t *testing.T) {
	u := []uint16{0xDC00, 0x61, 0xD83D, 0xDE00, 0xFFFD, 0xD800, 0xDBFF, 0xDFFF, 0xD800}
	for name, walk := range walks {
		if wrong := trial.LeaveEarly(walk(u)); wrong != "" {
			t.Errorf("%s: %s", name, wrong)
		}
	}
}

// P0.1, 2.5: what an iterator tells is what was handed in, whatever becomes of the list then.
func TestIteratorsDoNotKeep(t *testing.T) {
	for name, walk := range walks {
		u := []uint16{0x61, 0xD83D, 0xDE00, 0xDC00, 0x62}
		want := trial.Collect(walk(u))
		seq := walk(u)
		var got []trial.Pair[int, rune]
		for at, r := range seq {
			got = append(got, trial.Pair[int, rune]{A: at, B: r})
			clear(u)
		}
		if !slices.Equal(got, want) || !slices.Equal(trial.Collect(seq), want) {
			t.Errorf("%s: %v, not %v", name, got, want)
		}
	}
}

// P0.1: what is handed in is not changed, spare room included, and not kept.
func TestArgumentsStay(t *testing.T) {
	units := []uint16{0xD83D, 0x61, 0xD83D, 0xDE00, 0xDC00, 0x62, 0x63, 0x64}
	before := slices.Clone(units)
	u := units[:5]
	wide.Runes(u)
	wide.Text(u)
	wide.Check(u)
	for _, walk := range walks {
		trial.Collect(walk(u))
	}
	for _, o := range orders {
		wide.Lay(o, true, u...)
		wide.Lay(o, false, u...)
	}
	if !slices.Equal(units, before) {
		t.Errorf("units changed to %x", units)
	}
	runes := []rune{0x61, -1, 0xD800, 0x1F600, 0x110000, 0x62, 0x63}
	kept := slices.Clone(runes)
	made := wide.FromRunes(runes[:5]...)
	if !slices.Equal(runes, kept) {
		t.Errorf("runes changed to %x", runes)
	}
	clear(runes)
	if !slices.Equal(made, []uint16{0x61, 0xFFFD, 0xFFFD, 0xD83D, 0xDE00, 0xFFFD}) {
		t.Errorf("kept: %x", made)
	}
}

// P0.1: answers are memory of their own.
func TestAnswersAreNew(t *testing.T) {
	u := []uint16{0x61, 0x62, 0x63}
	one, two := wide.Runes(u), wide.Runes(u)
	clear(one[:cap(one)])
	if !slices.Equal(two, []rune{0x61, 0x62, 0x63}) || !slices.Equal(wide.Runes(u), two) {
		t.Errorf("Runes: %x", two)
	}
	read := func(o api.Order, s string) []uint16 {
		u, _, _ := wide.Read(o, s)
		return u
	}
	for name, call := range map[string]func() []uint16{
		"FromRunes": func() []uint16 { return wide.FromRunes(0x61, 0x62, 0x63) },
		"FromText":  func() []uint16 { return wide.FromText("abc") },
		"Read":      func() []uint16 { return read(api.HighFirst, "\x00a\x00b\x00c") },
		"Read low":  func() []uint16 { return read(api.HighFirst, "\xff\xfea\x00b\x00c\x00") },
	} {
		one, two := call(), call()
		clear(one[:cap(one)])
		if !slices.Equal(two, u) || !slices.Equal(call(), u) {
			t.Errorf("%s: %x", name, two)
		}
	}
}

// P0.1: long texts.
func TestLong(t *testing.T) {
	const count = 1 << 18
	s := strings.Repeat("a\xff\xf0\x9f\x98\x80", count)
	u := wide.FromText(s)
	if len(u) != 4*count || wide.Text(u) != strings.Repeat("a"+fffd+"\xf0\x9f\x98\x80", count) {
		t.Fatal(len(u))
	}
	if unit, code := wide.UnitAt(s, len(s)); unit != len(u) || code != api.OK {
		t.Error(unit, code)
	}
	if at, code := wide.ByteAt(s, len(u)); at != len(s) || code != api.OK {
		t.Error(at, code)
	}
	laid, _ := wide.Lay(api.LowFirst, true, u...)
	if got, stood, code := wide.Read(api.HighFirst, laid); !slices.Equal(got, u) || stood != api.LowFirst || code != api.OK {
		t.Error(len(got), stood, code)
	}
	if at, code := wide.Check(append(u, 0xD800)); at != len(u) || code != api.ErrHigh {
		t.Error(at, code)
	}
	if len(trial.Collect(wide.Back(u))) != 3*count {
		t.Error("Back tells something else")
	}
}

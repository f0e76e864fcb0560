package mirrors_test

import (
	"slices"
	"testing"

	"furrow/api"
	"furrow/mirrors"
	"furrow/trial"
)

// P9.4: the chapter's example.
func TestPrint(t *testing.T) {
	s, why := mirrors.Print(api.Mirror{From: 0x28, To: 0x29}, api.Mirror{From: 0x29, To: 0x28, Best: true})
	if s != "0028; 0029\n0029; 0028 # [BEST FIT]\n" || why != api.OK {
		t.Errorf("Print = %q, %d", s, why)
	}
}

// P9.4: no mirrors have no lines.
func TestPrintNothing(t *testing.T) {
	for _, l := range [][]api.Mirror{nil, {}} {
		if s, why := mirrors.Print(l...); s != "" || why != api.OK {
			t.Errorf("Print = %q, %d", s, why)
		}
	}
}

// P9.4: digits of all lengths, in the list's order, whatever the Lines are.
func TestPrintDigits(t *testing.T) {
	l := []api.Mirror{
		{Line: 5, From: api.MaxRune, To: 0, Best: true}, {Line: -1, From: 0xABCDE, To: 0xF}, {Line: 5, From: 0, To: api.MaxRune}, {From: 0xF, To: 0xABCDE, Best: true}, {From: 0xFFF, To: 0x1000}, {From: 0x1000, To: 0xFFF},
	}
	want := "10FFFF; 0000 # [BEST FIT]\nABCDE; 000F\n0000; 10FFFF\n000F; ABCDE # [BEST FIT]\n0FFF; 1000\n1000; 0FFF\n"
	if s, why := mirrors.Print(l...); s != want || why != api.OK {
		t.Errorf("Print = %q, %d", s, why)
	}
}

// isNotPrinted holds Print of l against Check's error.
func isNotPrinted(t *testing.T, l []api.Mirror, why api.Errno) {
	t.Helper()
	if s, got := mirrors.Print(l...); s != "" || got != why {
		t.Fatalf("Print of %v = %q, %d, not %d", l, s, got, why)
	}
}

// P9.4: what Check refuses, with nothing beside the error.
func TestPrintRefused(t *testing.T) {
	isNotPrinted(t, turns('a', -1), api.ErrArg)
	isNotPrinted(t, turns(beyond, 'a'), api.ErrArg)
	isNotPrinted(t, turns('a', 'a'), api.ErrSelf)
	isNotPrinted(t, append(examples(), turns(0x28, 0x29)...), api.ErrAgain)
	isNotPrinted(t, turns('a', 'b'), api.ErrTwist)
	isNotPrinted(t, append(examples(), turns('a', 'b')...), api.ErrTwist)
	isNotPrinted(t, turns('x', 'y', 'a', 'a'), api.ErrSelf)
}

// numbered is l as Read of its lines answers it.
func numbered(l []api.Mirror) []api.Mirror {
	out := slices.Clone(l)
	for i := range out {
		out[i].Line = i + 1
	}
	return out
}

// P9.4, P9.7: all lists of up to four mirrors, the best among them: printed, and read again.
func TestPrintAllLists(t *testing.T) {
	count := 0
	lists(func(l []api.Mirror) {
		if _, why := wrongOf(l); why != api.OK {
			isNotPrinted(t, l, why)
			return
		}
		for best := range trial.Words([]bool{false, true}, len(l)) {
			for i := range l {
				l[i].Best, l[i].Line = best[i], 1000-i
			}
			if read := readWhole(t, isPrinted(t, l)); !slices.Equal(read, numbered(l)) {
				t.Fatalf("%v is read as %v", l, read)
			}
			count++
		}
	})
	if count < 1000 {
		t.Errorf("only %d lists", count)
	}
}

// P9.7: mirrors of many numbers, read as they were printed.
func TestPrintAndRead(t *testing.T) {
	var l []api.Mirror
	for r := rune(0); r < api.MaxRune; r += 2 * (1 + r/64) {
		l = append(l, api.Mirror{Line: -int(r), From: r, To: r + 1, Best: r%3 == 0}, api.Mirror{From: r + 1, To: r, Best: r%5 == 0})
	}
	read := readWhole(t, isPrinted(t, l))
	if len(l) < 500 || !slices.Equal(read, numbered(l)) {
		t.Errorf("%d mirrors are read as something else", len(l))
	}
	if again := readWhole(t, isPrinted(t, read)); !slices.Equal(again, read) {
		t.Error("printed again, they are something else")
	}
}

package wide_test

import (
	"slices"
	"testing"
	"unicode/utf16"

	"furrow/api"
	"furrow/trial"
	"furrow/utf"
	"furrow/wide"
)

const fffd = "\xef\xbf\xbd"

// 2.1
func TestSplitAndWidth(t *testing.T) {
	for _, c := range []struct {
		r         rune
		high, low uint16
	}{
		{0x10000, 0xD800, 0xDC00}, {0x10001, 0xD800, 0xDC01}, {0x103FF, 0xD800, 0xDFFF}, {0x10400, 0xD801, 0xDC00},
		{0x1F600, 0xD83D, 0xDE00}, {0xFFFFF, 0xDBBF, 0xDFFF}, {0x100000, 0xDBC0, 0xDC00}, {0x10FFFF, 0xDBFF, 0xDFFF},
	} {
		if high, low, ok := wide.Split(c.r); high != c.high || low != c.low || !ok {
			t.Errorf("Split(%x) = %x, %x, %v", c.r, high, low, ok)
		}
		if got := wide.Width(c.r); got != 2 {
			t.Errorf("Width(%x) = %d", c.r, got)
		}
		if r, ok := wide.Join(c.high, c.low); r != c.r || !ok {
			t.Errorf("Join(%x, %x) = %x, %v", c.high, c.low, r, ok)
		}
	}
}

// 2.1: numbers that one unit holds, and such as are no characters.
func TestNoPair(t *testing.T) {
	for _, r := range edgeRunes {
		if r >= 0x10000 && r <= 0x10FFFF {
			continue
		}
		if high, low, ok := wide.Split(r); high != 0 || low != 0 || ok {
			t.Errorf("Split(%x) = %x, %x, %v", r, high, low, ok)
		}
		if got := wide.Width(r); got != 1 {
			t.Errorf("Width(%x) = %d", r, got)
		}
	}
}

// 2.1: each unit with each one at which something changes, in both orders.
func TestJoin(t *testing.T) {
	check := func(high, low uint16) {
		var want rune
		isPair := high >= 0xD800 && high <= 0xDBFF && low >= 0xDC00 && low <= 0xDFFF
		if isPair {
			want = 0x10000 + 0x400*(rune(high)-0xD800) + rune(low) - 0xDC00
		}
		if r, ok := wide.Join(high, low); r != want || ok != isPair {
			t.Fatalf("Join(%x, %x) = %x, %v", high, low, r, ok)
		}
	}
	for n := range 1 << 16 {
		for _, edge := range edgeUnits {
			check(uint16(n), edge)
			check(edge, uint16(n))
		}
	}
}

// 2.1, 2.2, 2.3, 2.8
func TestEachNumber(t *testing.T) {
	for r := rune(-2); r <= api.MaxRune+2; r++ {
		u := wide.FromRunes(r)
		if len(u) != wide.Width(r) || !slices.Equal(u, utf16.Encode([]rune{r})) {
			t.Fatalf("%x: %x, wide %d", r, u, wide.Width(r))
		}
		high, low, ok := wide.Split(r)
		if ok != (len(u) == 2) || ok && (u[0] != high || u[1] != low) {
			t.Fatalf("%x: %x, split %x, %x, %v", r, u, high, low, ok)
		}
		want := r
		if !utf.Scalar(r) {
			want = 0xFFFD
		}
		if back := wide.Runes(u); len(back) != 1 || back[0] != want {
			t.Fatalf("%x: %x, back %x", r, u, back)
		}
	}
}

// 2.2
func TestFromRunes(t *testing.T) {
	if got := wide.FromRunes(0x61, 0x1F600, 0xD800, -1); !slices.Equal(got, []uint16{0x61, 0xD83D, 0xDE00, 0xFFFD, 0xFFFD}) {
		t.Errorf("%x", got)
	}
	// Surrogates in a list of runes are no characters, not even a high one and a low one.
	if got := wide.FromRunes(0xD83D, 0xDE00, 0x110000, 0xFFFF, 0x10000); !slices.Equal(got, []uint16{0xFFFD, 0xFFFD, 0xFFFD, 0xFFFF, 0xD800, 0xDC00}) {
		t.Errorf("%x", got)
	}
	if len(wide.FromRunes())+len(wide.FromRunes(nil...))+len(wide.FromRunes([]rune{}...)) != 0 {
		t.Error("no runes have units")
	}
	for l := range trial.Words(edgeRunes, 3) {
		if got := wide.FromRunes(l...); !slices.Equal(got, utf16.Encode(l)) {
			t.Fatalf("%x: %x", l, got)
		}
	}
}

// 2.2
func TestFromText(t *testing.T) {
	for s, want := range map[string][]uint16{
		"":                                 nil,
		"a\xff\xc3\xa9\xe2\x82":            {0x61, 0xFFFD, 0xE9, 0xFFFD, 0xFFFD},
		fffd + "\xff" + fffd + "\xef\xbf":  {0xFFFD, 0xFFFD, 0xFFFD, 0xFFFD, 0xFFFD},
		"\xed\xa0\xbd\xed\xb8\x80":         {0xFFFD, 0xFFFD, 0xFFFD, 0xFFFD, 0xFFFD, 0xFFFD},
		"\xf0\x9f\x98\x80\xf0\x9f\x98":     {0xD83D, 0xDE00, 0xFFFD, 0xFFFD, 0xFFFD},
		"\xf4\x8f\xbf\xbf\xf4\x90\x80":     {0xDBFF, 0xDFFF, 0xFFFD, 0xFFFD, 0xFFFD},
		"\xed\x9f\xbf\xee\x80\x80":         {0xD7FF, 0xE000},
		"\xef\xbb\xbf\xef\xbf\xbe":         {0xFEFF, 0xFFFE},
		"\x00\xef\xbf\xbf\xf0\x90\x80\x80": {0, 0xFFFF, 0xD800, 0xDC00},
	} {
		if got := wide.FromText(s); !slices.Equal(got, want) {
			t.Errorf("FromText(%x) = %x", s, got)
		}
	}
	for s := range trial.Texts() {
		if got := wide.FromText(s); !slices.Equal(got, utf16.Encode([]rune(s))) {
			t.Fatalf("FromText(%x) = %x", s, got)
		}
	}
}

// 2.3
func TestRunesAndText(t *testing.T) {
	u := []uint16{0xD83D, 0x61, 0xDE00, 0xD83D, 0xDE00}
	if got := wide.Runes(u); !slices.Equal(got, []rune{0xFFFD, 0x61, 0xFFFD, 0x1F600}) {
		t.Errorf("Runes %x", got)
	}
	if got := wide.Text(u); got != fffd+"a"+fffd+"\xf0\x9f\x98\x80" {
		t.Errorf("Text %x", got)
	}
	if len(wide.Runes(nil))+len(wide.Runes([]uint16{})) != 0 || wide.Text(nil)+wide.Text([]uint16{}) != "" {
		t.Error("no units stand for something")
	}
	for u := range lists() {
		want := runesOf(plain(u))
		if got := wide.Runes(u); !slices.Equal(got, want) || !slices.Equal(got, utf16.Decode(u)) {
			t.Fatalf("Runes(%x) = %x, not %x", u, got, want)
		}
		if got := wide.Text(u); got != utf.Encode(want...) {
			t.Fatalf("Text(%x) = %x", u, got)
		}
	}
}

// 2.4
func TestCheck(t *testing.T) {
	for _, c := range []struct {
		u    []uint16
		at   int
		code api.Errno
	}{
		{nil, 0, api.OK},
		{[]uint16{}, 0, api.OK},
		{[]uint16{0x61, 0xD83D, 0x61}, 1, api.ErrHigh},
		{[]uint16{0x61, 0xDE00}, 1, api.ErrLow},
		{[]uint16{0xD83D, 0xDE00}, 0, api.OK},
		{[]uint16{0x61, 0xFFFD, 0xD7FF, 0xE000, 0xFFFF}, 0, api.OK},
		{[]uint16{0xFFFD, 0xDC00, 0xD800}, 1, api.ErrLow},
		{[]uint16{0xD800}, 0, api.ErrHigh},
		{[]uint16{0xDBFF}, 0, api.ErrHigh},
		{[]uint16{0xDC00}, 0, api.ErrLow},
		{[]uint16{0xDFFF}, 0, api.ErrLow},
		{[]uint16{0xD800, 0xD800, 0xDC00}, 0, api.ErrHigh},
		{[]uint16{0xD800, 0xDC00, 0xDC00}, 2, api.ErrLow},
		{[]uint16{0xDBFF, 0xDFFF, 0x61, 0xD800}, 3, api.ErrHigh},
		{[]uint16{0xD800, 0xDBFF}, 0, api.ErrHigh},
		{[]uint16{0xD800, 0xE000}, 0, api.ErrHigh},
	} {
		if at, code := wide.Check(c.u); at != c.at || code != c.code {
			t.Errorf("Check(%x) = %d, %v, not %d, %v", c.u, at, code, c.at, c.code)
		}
	}
}

// 2.4: of all lists.
func TestCheckOfAll(t *testing.T) {
	for u := range lists() {
		wantAt, want := 0, api.OK
		for _, c := range plain(u) {
			if c.B != 0xFFFD || u[c.A] == 0xFFFD {
				continue
			}
			if wantAt, want = c.A, api.ErrLow; u[c.A] < 0xDC00 {
				want = api.ErrHigh
			}
			break
		}
		if at, code := wide.Check(u); at != wantAt || code != want {
			t.Fatalf("Check(%x) = %d, %v, not %d, %v", u, at, code, wantAt, want)
		}
	}
}

// 2.5
func TestEachAndBack(t *testing.T) {
	u := []uint16{0xD83D, 0x61, 0xDE00, 0xD83D, 0xDE00}
	want := []trial.Pair[int, rune]{{A: 0, B: 0xFFFD}, {A: 1, B: 0x61}, {A: 2, B: 0xFFFD}, {A: 3, B: 0x1F600}}
	if got := trial.Collect(wide.Each(u)); !slices.Equal(got, want) {
		t.Errorf("Each %v", got)
	}
	if got := trial.Collect(wide.Back(u)); !slices.Equal(got, trial.Reversed(want)) {
		t.Errorf("Back %v", got)
	}
	for _, none := range [][]uint16{nil, {}} {
		if len(trial.Collect(wide.Each(none)))+len(trial.Collect(wide.Back(none))) != 0 {
			t.Error("no units: something is told")
		}
	}
	for u := range lists() {
		want := plain(u)
		if got := trial.Collect(wide.Each(u)); !slices.Equal(got, want) {
			t.Fatalf("Each(%x) = %x", u, got)
		}
		if got := trial.Collect(wide.Back(u)); !slices.Equal(got, trial.Reversed(want)) {
			t.Fatalf("Back(%x) = %x", u, got)
		}
	}
}

// 2.8
func TestRunesThereAndBack(t *testing.T) {
	for l := range trial.Words(edgeRunes, 3) {
		want := slices.Clone(l)
		for i, r := range want {
			if !utf.Scalar(r) {
				want[i] = 0xFFFD
			}
		}
		if got := wide.Runes(wide.FromRunes(l...)); !slices.Equal(got, want) {
			t.Fatalf("%x comes back as %x", l, got)
		}
	}
	for s := range trial.Texts() {
		if got := wide.Text(wide.FromText(s)); got != utf.Mend(s) {
			t.Fatalf("%x comes back as %x", s, got)
		}
	}
}

// 2.8
func TestUnitsThereAndBack(t *testing.T) {
	for u := range lists() {
		want := slices.Clone(u)
		for _, c := range plain(u) {
			if c.B == 0xFFFD {
				want[c.A] = 0xFFFD
			}
		}
		if got := wide.FromRunes(wide.Runes(u)...); !slices.Equal(got, want) {
			t.Fatalf("%x comes back as %x", u, got)
		}
		if _, code := wide.Check(want); code != api.OK {
			t.Fatalf("%x: %v", want, code)
		}
		if _, code := wide.Check(u); code == api.OK && !slices.Equal(wide.FromText(wide.Text(u)), u) {
			t.Fatalf("%x comes back as %x", u, wide.FromText(wide.Text(u)))
		}
	}
}

// 2.9
func TestWidthsAddUp(t *testing.T) {
	for u := range lists() {
		sum := 0
		for at, r := range wide.Each(u) {
			if at != sum {
				t.Fatalf("%x: %x at %d, not %d", u, r, at, sum)
			}
			sum += wide.Width(r)
		}
		if sum != len(u) {
			t.Fatalf("%x: %d of %d units", u, sum, len(u))
		}
	}
}

// 2.10
func TestTextSeams(t *testing.T) {
	for s := range trial.Texts() {
		whole := wide.FromText(s)
		for seam := range len(s) + 1 {
			if !utf.New(s).Begins(seam) {
				continue
			}
			if got := slices.Concat(wide.FromText(s[:seam]), wide.FromText(s[seam:])); !slices.Equal(got, whole) {
				t.Fatalf("%x at %d: %x, not %x", s, seam, got, whole)
			}
		}
	}
}

// 2.10
func TestUnitSeams(t *testing.T) {
	for u := range lists() {
		whole := wide.Runes(u)
		for seam := range len(u) + 1 {
			ahead, behind := u[:seam], u[seam:]
			inPair := seam > 0 && seam < len(u) && u[seam-1] >= 0xD800 && u[seam-1] <= 0xDBFF && u[seam] >= 0xDC00 && u[seam] <= 0xDFFF
			if got := slices.Concat(wide.Runes(ahead), wide.Runes(behind)); slices.Equal(got, whole) == inPair {
				t.Fatalf("%x at %d: %x, and together %x", u, seam, got, whole)
			}
		}
	}
}

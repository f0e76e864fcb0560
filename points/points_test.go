package points_test

import (
	"fmt"
	"iter"
	"regexp"
	"slices"
	"strconv"
	"strings"
	"testing"

	"furrow/api"
	"furrow/points"
	"furrow/trial"
)

const greatest = 1<<31 - 1

func rangeOf(lo, hi rune) api.Range { return api.Range{Lo: lo, Hi: hi} }

// plainHex is what Hex must answer, reckoned the other way round: s is a code point's digits, if the library writes it so.
func plainHex(s string) (rune, api.Errno) {
	n, err := strconv.ParseInt(s, 16, 32)
	if err != nil || n < 0 || n > api.MaxRune || fmt.Sprintf("%04X", n) != s {
		return 0, api.ErrHex
	}
	return rune(n), api.OK
}

var spanForm = regexp.MustCompile(`^([0-9A-F]*)(?:\.\.([0-9A-F]*))?$`)

// plainSpan is what Span must answer.
func plainSpan(s string) (api.Range, api.Errno) {
	parts := spanForm.FindStringSubmatch(s)
	if parts == nil {
		return api.Range{}, api.ErrHex
	}
	if !strings.Contains(s, ".") {
		parts[2] = parts[1]
	}
	lo, one := plainHex(parts[1])
	hi, two := plainHex(parts[2])
	switch {
	case one != api.OK || two != api.OK:
		return api.Range{}, api.ErrHex
	case lo > hi:
		return api.Range{}, api.ErrRange
	}
	return api.Range{Lo: lo, Hi: hi}, api.OK
}

// P4.1: the chapter's examples, and the edges that the issue names.
func TestHex(t *testing.T) {
	wrong := []string{
		"", "0", "4", "41", "041", "00041", "000041", "0000041", "110000", "FFFFFF", "1000000", "10FFFFF",
		"004g", "004G", "00e9", "00E9 ", " 00E9", "0x41", "0X41", "+041", "-041", "004/", "004:", "004@", "004`", "00 1",
		"0_41", "U+41", "U+0041", "0041\x00", "004\x00", "004\xff", "\xff041", "é41", "00é", "\uff10\uff10", "\uff11234", "٠٠٤١", "0FFFF", "010000", "00FFFF",
	}
	for _, s := range wrong {
		if r, why := points.Hex(s); r != 0 || why != api.ErrHex {
			t.Errorf("Hex(%q) = %x, %d", s, r, why)
		}
	}
	right := map[string]rune{
		"0000": 0, "0001": 1, "0041": 0x41, "00E9": 0xE9, "0FFF": 0xFFF, "1000": 0x1000, "D800": 0xD800, "DFFF": 0xDFFF,
		"FFFF": 0xFFFF, "10000": 0x10000, "1F600": 0x1F600, "ABCDE": 0xABCDE, "FFFFF": 0xFFFFF, "100000": 0x100000, "10FFFF": 0x10FFFF,
		"0123": 0x123, "4567": 0x4567, "89AB": 0x89AB, "CDEF": 0xCDEF,
	}
	for s, want := range right {
		if r, why := points.Hex(s); r != want || why != api.OK {
			t.Errorf("Hex(%q) = %x, %d", s, r, why)
		}
	}
	if _, why := points.Hex(strings.Repeat("0", 1<<20) + "41"); why != api.ErrHex {
		t.Errorf("of many signs: %d", why)
	}
}

// hexTexts tells texts that are, or nearly are, digits.
func hexTexts() iter.Seq[string] {
	return func(yield func(string) bool) {
		signs := strings.Split("0 1 9 A F / : @ G a f g . x", " ")
		signs = append(signs, "\x80", "\xff", "é", "\uff11", "\x00", " ")
		for _, texts := range []iter.Seq[string]{
			trial.Joined(signs, 4), trial.Joined([]string{"0", "1", "F", "G"}, 7), trial.Joined([]string{"00", "10", "11", "FF", "0F", "a"}, 4),
			trial.Texts(),
		} {
			for s := range texts {
				if !yield(s) {
					return
				}
			}
		}
	}
}

// P4.1, P4.7: Hex of all short texts; where it takes one, Show of the answer is the text.
func TestHexOfAllShortTexts(t *testing.T) {
	for s := range hexTexts() {
		want, wantWhy := plainHex(s)
		got, why := points.Hex(s)
		if got != want || why != wantWhy {
			t.Fatalf("Hex(%q) = %x, %d, not %x, %d", s, got, why, want, wantWhy)
		}
		if why != api.OK {
			continue
		}
		if shown, _ := points.Show(got); shown != s {
			t.Fatalf("Show of Hex(%q) = %q", s, shown)
		}
	}
}

// P4.1: every number's digits; every single byte beside right ones.
func TestHexOfEachByte(t *testing.T) {
	for b := range 256 {
		for _, frame := range []string{"", "1", "10"} {
			for at := range 4 + len(frame) {
				text := []byte(frame + "0000")
				text[at] = byte(b)
				want, wantWhy := plainHex(string(text))
				if got, why := points.Hex(string(text)); got != want || why != wantWhy {
					t.Fatalf("Hex(%q) = %x, %d", text, got, why)
				}
			}
		}
	}
}

// P4.1, P4.7: Show of each code point, and Hex of that.
func TestShowOfEachCodePoint(t *testing.T) {
	for r := rune(0); r <= api.MaxRune; r++ {
		got, why := points.Show(r)
		if want := fmt.Sprintf("%04X", r); got != want || why != api.OK {
			t.Fatalf("Show(%x) = %q, %d", r, got, why)
		}
		if back, why := points.Hex(got); back != r || why != api.OK {
			t.Fatalf("Hex of Show(%x) = %x, %d", r, back, why)
		}
	}
}

// P4.1: numbers that are no code points.
func TestShowOfOtherNumbers(t *testing.T) {
	for _, r := range []rune{-1, -2, -0x41, -0x10FFFF, -greatest - 1, 0x110000, 0x110001, 0x1000000, greatest} {
		if got, why := points.Show(r); got != "" || why != api.ErrHex {
			t.Errorf("Show(%x) = %q, %d", r, got, why)
		}
	}
}

// P4.1: the chapter's examples, and the edges that the issue names.
func TestSpan(t *testing.T) {
	right := map[string]api.Range{
		"0590..05FF": rangeOf(0x590, 0x5FF), "0041": rangeOf(0x41, 0x41), "0041..0041": rangeOf(0x41, 0x41),
		"0000..10FFFF": rangeOf(0, 0x10FFFF), "10FFFF": rangeOf(0x10FFFF, 0x10FFFF), "FFFF..10000": rangeOf(0xFFFF, 0x10000),
		"D800..DFFF": rangeOf(0xD800, 0xDFFF),
	}
	for s, want := range right {
		if got, why := points.Span(s); got != want || why != api.OK {
			t.Errorf("Span(%q) = %x, %d", s, got, why)
		}
	}
	wrong := map[string]api.Errno{
		"05FF..0590": api.ErrRange, "0001..0000": api.ErrRange, "10FFFF..0000": api.ErrRange, "10000..FFFF": api.ErrRange,
		"": api.ErrHex, ".": api.ErrHex, "..": api.ErrHex, "...": api.ErrHex, "....": api.ErrHex, "0041.": api.ErrHex, ".0041": api.ErrHex,
		"0041..": api.ErrHex, "..0041": api.ErrHex, "0041.0042": api.ErrHex, "0041...0042": api.ErrHex, "0041....0042": api.ErrHex,
		"0041..0042..0043": api.ErrHex, "0041..0042..": api.ErrHex, "..0041..0042": api.ErrHex, "0042..0041..0043": api.ErrHex,
		"0041 ..0042": api.ErrHex, "0041.. 0042": api.ErrHex, "0041..42": api.ErrHex, "41..0042": api.ErrHex, "0042..41": api.ErrHex,
		"0000..110000": api.ErrHex, "110000..0000": api.ErrHex, "0041-0042": api.ErrHex, "0041‥0042": api.ErrHex, "0041..00\xff1": api.ErrHex,
	}
	for s, want := range wrong {
		if got, why := points.Span(s); got != (api.Range{}) || why != want {
			t.Errorf("Span(%q) = %x, %d", s, got, why)
		}
	}
}

// P4.1, P4.7: Span of all texts of a few pieces; where it takes one that is not two like digits, ShowSpan of the answer is the text.
func TestSpanOfAllShortTexts(t *testing.T) {
	pieces := []string{"0041", "0042", "10FFFF", "FFFF", "00041", "110000", "4", ".", "..", "g", "\xff", " "}
	for s := range trial.Joined(pieces, 5) {
		want, wantWhy := plainSpan(s)
		got, why := points.Span(s)
		if got != want || why != wantWhy {
			t.Fatalf("Span(%q) = %x, %d, not %x, %d", s, got, why, want, wantWhy)
		}
		if first, second, two := strings.Cut(s, ".."); why != api.OK || two && first == second {
			continue
		}
		if shown, _ := points.ShowSpan(got); shown != s {
			t.Fatalf("ShowSpan of Span(%q) = %q", s, shown)
		}
	}
}

// ends are numbers at which something changes.
func ends() []rune {
	return []rune{-greatest - 1, -0x10FFFF, -2, -1, 0, 1, 0x41, 0x5A, 0xD7FF, 0xD800, 0xDFFF, 0xE000, 0xFFFF, 0x10000, 0xFFFFF, 0x10FFFE, 0x10FFFF, 0x110000, 0x110001, greatest - 1, greatest}
}

// ranges are those between any two of the ends, turned round ones too.
func ranges() []api.Range {
	var all []api.Range
	for _, lo := range ends() {
		for _, hi := range ends() {
			all = append(all, rangeOf(lo, hi))
		}
	}
	return all
}

// plainMay is whether r may be, asked of a list of the code points.
func plainMay(r api.Range) bool {
	codePoints := []rune{0, 1, 0x41, 0x5A, 0xD7FF, 0xD800, 0xDFFF, 0xE000, 0xFFFF, 0x10000, 0xFFFFF, 0x10FFFE, 0x10FFFF}
	lo, hi := slices.Index(codePoints, r.Lo), slices.Index(codePoints, r.Hi)
	return lo >= 0 && hi >= 0 && lo <= hi
}

// P4.1, P4.7: May and ShowSpan of ranges between all ends, and Span of what is shown.
func TestShowSpan(t *testing.T) {
	for _, r := range ranges() {
		may := plainMay(r)
		if points.May(r) != may {
			t.Errorf("May(%x) = %t", r, !may)
		}
		got, why := points.ShowSpan(r)
		if !may {
			if got != "" || why != api.ErrRange {
				t.Errorf("ShowSpan(%x) = %q, %d", r, got, why)
			}
			continue
		}
		want := fmt.Sprintf("%04X", r.Lo)
		if r.Hi != r.Lo {
			want += fmt.Sprintf("..%04X", r.Hi)
		}
		if got != want || why != api.OK {
			t.Errorf("ShowSpan(%x) = %q, %d", r, got, why)
		}
		if back, why := points.Span(got); back != r || why != api.OK {
			t.Errorf("Span of ShowSpan(%x) = %x, %d", r, back, why)
		}
	}
}

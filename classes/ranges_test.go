package classes_test

import (
	"slices"
	"testing"

	"furrow/api"
	"furrow/trial"
)

func ranged(lo, hi rune, class api.Class) pair {
	return pair{A: api.Range{Lo: lo, Hi: hi}, B: class}
}

// P7.3: the chapter's examples.
func TestRanges(t *testing.T) {
	table := tableOf(t, example)
	isTold(t, "Named", table.Named(), ranged(0x30, 0x39, api.EN), ranged(0x5D0, 0x5D0, api.R))
	isTold(t, "Whole", table.Whole(), ranged(0, 0x2F, api.L), ranged(0x30, 0x39, api.EN), ranged(0x3A, 0x58F, api.L), ranged(0x590, 0x5FF, api.R), ranged(0x600, 0x10FFFF, api.L))
	want := []api.Missing{{Range: api.Range{Lo: 0, Hi: 0x10FFFF}, Class: api.L}, {Range: api.Range{Lo: 0x590, Hi: 0x5FF}, Class: api.R}}
	if got := table.Missing(); !slices.Equal(got, want) {
		t.Errorf("Missing = %X", got)
	}
}

// P7.3: lines next to one another, of one class and of two, rising and not, and such as have a gap between them.
func TestNamed(t *testing.T) {
	for _, c := range []struct {
		lines []string
		want  []pair
	}{
		{[]string{"0041; R", "0042; R"}, []pair{ranged(0x41, 0x42, api.R)}},
		{[]string{"0041; R", "0042; L"}, []pair{ranged(0x41, 0x41, api.R), ranged(0x42, 0x42, api.L)}},
		{[]string{"0041; R", "0043; R"}, []pair{ranged(0x41, 0x41, api.R), ranged(0x43, 0x43, api.R)}},
		{[]string{"0041; R", "0042; Right_To_Left", "0043..0050; r"}, []pair{ranged(0x41, 0x50, api.R)}},
		{[]string{"0041; R", "0042; L", "0043; R"}, []pair{ranged(0x41, 0x41, api.R), ranged(0x42, 0x42, api.L), ranged(0x43, 0x43, api.R)}},
		{[]string{"0000..000F; R", "0010..10FFFF; R"}, []pair{ranged(0, 0x10FFFF, api.R)}},
		{[]string{"0000; R", "10FFFF; R"}, []pair{ranged(0, 0, api.R), ranged(0x10FFFF, 0x10FFFF, api.R)}},
		{[]string{"0041; L"}, []pair{ranged(0x41, 0x41, api.L)}},
		{[]string{"# @missing: 0041; R"}, nil},
		{[]string{"# @missing: 0042; R", "0041; R", "0043; R"}, []pair{ranged(0x41, 0x41, api.R), ranged(0x43, 0x43, api.R)}},
	} {
		isTold(t, text(c.lines...), tableOf(t, text(c.lines...)).Named(), c.want...)
		back := text(trial.Reversed(c.lines)...)
		isTold(t, back, tableOf(t, back).Named(), c.want...)
	}
}

// P7.3: ranges of one class, whichever lines they come of; together all code points.
func TestWhole(t *testing.T) {
	const end = api.MaxRune
	for _, c := range []struct {
		text string
		want []pair
	}{
		{"", []pair{ranged(0, end, api.L)}},
		{"0041; L", []pair{ranged(0, end, api.L)}},
		{"# @missing: 0041; L", []pair{ranged(0, end, api.L)}},
		{"# @missing: 0000..10FFFF; R", []pair{ranged(0, end, api.R)}},
		{"0000..10FFFF; R", []pair{ranged(0, end, api.R)}},
		{"0041; R", []pair{ranged(0, 0x40, api.L), ranged(0x41, 0x41, api.R), ranged(0x42, end, api.L)}},
		{text("0041; R", "# @missing: 0042; R"), []pair{ranged(0, 0x40, api.L), ranged(0x41, 0x42, api.R), ranged(0x43, end, api.L)}},
		{text("0042; R", "# @missing: 0040..0045; R"), []pair{ranged(0, 0x3F, api.L), ranged(0x40, 0x45, api.R), ranged(0x46, end, api.L)}},
		{text("# @missing: 0040..0045; R", "0042; AL", "0043; AL"), []pair{ranged(0, 0x3F, api.L), ranged(0x40, 0x41, api.R), ranged(0x42, 0x43, api.AL), ranged(0x44, 0x45, api.R), ranged(0x46, end, api.L)}},
		{text("# @missing: 0041; R", "# @missing: 0042; R"), []pair{ranged(0, 0x40, api.L), ranged(0x41, 0x42, api.R), ranged(0x43, end, api.L)}},
		{text("# @missing: 0000; R", "10FFFF; R"), []pair{ranged(0, 0, api.R), ranged(1, end-1, api.L), ranged(end, end, api.R)}},
		{text("# @missing: 0041; R", "0040..0042; L"), []pair{ranged(0, end, api.L)}},
	} {
		isTold(t, c.text, tableOf(t, c.text).Whole(), c.want...)
	}
}

// P7.3: the missing lines as they stand, those that say nothing new too.
func TestMissing(t *testing.T) {
	if got := tableOf(t, "0041; R").Missing(); len(got) != 0 {
		t.Errorf("Missing = %X", got)
	}
	s := text("# @missing: 0050; R", "0041; R", "# @missing: 0040..0050; Left To Right # n", "# @missing: 0050; R", "", "# @missing: 0000..10FFFF; l", "# @missing: 0041..0041; AL")
	want := []api.Missing{
		{Range: api.Range{Lo: 0x50, Hi: 0x50}, Class: api.R}, {Range: api.Range{Lo: 0x40, Hi: 0x50}, Class: api.L}, {Range: api.Range{Lo: 0x50, Hi: 0x50}, Class: api.R},
		{Range: api.Range{Lo: 0, Hi: 0x10FFFF}, Class: api.L}, {Range: api.Range{Lo: 0x41, Hi: 0x41}, Class: api.AL},
	}
	if got := tableOf(t, s).Missing(); !slices.Equal(got, want) {
		t.Errorf("Missing = %X", got)
	}
}

// P7.7: Whole tells each code point once, with its class; of named ones Given and Class are the same, and Named tells just these.
func TestWholeTellsAll(t *testing.T) {
	for _, s := range []string{"", example, text("D800..DFFF; BN", "0041; L", "# @missing: 0000..FFFF; R", "10000; R", "# @missing: FFFD; AL")} {
		table := tableOf(t, s)
		next, before := rune(0), api.Class(0)
		for r, class := range table.Whole() {
			if r.Lo != next || r.Hi < r.Lo || class == before {
				t.Fatalf("%q: %X of %d behind %X of %d", s, r, class, next-1, before)
			}
			for x := r.Lo; x <= r.Hi; x++ {
				if table.Class(x) != class {
					t.Fatalf("%q: Class of %X = %d, not %d", s, x, table.Class(x), class)
				}
			}
			next, before = r.Hi+1, class
		}
		if next != api.MaxRune+1 {
			t.Errorf("%q: Whole ends ahead of %X", s, next)
		}
		told := map[rune]api.Class{}
		for r, class := range table.Named() {
			for x := r.Lo; x <= r.Hi; x++ {
				told[x] = class
			}
		}
		for x := rune(0); x <= api.MaxRune; x++ {
			given, is := table.Given(x)
			if want, named := told[x]; named != is || given != want || is && table.Class(x) != given || is != (table.Line(x) != 0) {
				t.Fatalf("%q: Given of %X = %d, %v", s, x, given, is)
			}
		}
	}
}

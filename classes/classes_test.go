package classes_test

import (
	"math"
	"slices"
	"strings"
	"testing"

	"furrow/api"
	"furrow/trial"
)

// P7.2: the chapter's examples.
func TestClass(t *testing.T) {
	table := tableOf(t, example)
	for r, want := range map[rune]api.Class{0x31: api.EN, 0x591: api.R, 0x5D0: api.R, 0x600: api.L, 0x110000: api.L, 0x2F: api.L, 0x30: api.EN, 0x39: api.EN, 0x3A: api.L, 0x58F: api.L, 0x590: api.R, 0x5FF: api.R} {
		if got := table.Class(r); got != want {
			t.Errorf("Class of %X = %d", r, got)
		}
	}
}

// P7.2: the chapter's examples.
func TestGiven(t *testing.T) {
	table := tableOf(t, example)
	for r, want := range map[rune]struct {
		class api.Class
		line  int
	}{0x31: {api.EN, 4}, 0x35: {api.EN, 4}, 0x5D0: {api.R, 5}, 0x591: {}, 0x2F: {}, 0x3A: {}, 0: {}, 0x10FFFF: {}} {
		if class, is := table.Given(r); class != want.class || is != (want.line != 0) {
			t.Errorf("Given of %X = %d, %v", r, class, is)
		}
		if got := table.Line(r); got != want.line {
			t.Errorf("Line of %X = %d", r, got)
		}
	}
}

// P7.2: numbers that are no code points count as FFFD does; surrogates as themselves.
func TestNumbers(t *testing.T) {
	beyond := []rune{math.MinInt32, -0x110000, -2, -1, 0x110000, 0x110001, math.MaxInt32}
	for _, c := range []struct {
		text  string
		class api.Class
		line  int
	}{
		{"", api.L, 0},
		{"0000; R\n10FFFF; AL", api.L, 0},
		{"0000..FFFC; R\nFFFE..10FFFF; AL", api.L, 0},
		{"\nFFFD; EN", api.EN, 2},
		{"# @missing: FFFD; EN", api.EN, 0},
		{"# @missing: FFFD; EN\n\nFFF0..FFFF; AN", api.AN, 3},
		{"# @missing: 0000..10FFFF; ON\n# @missing: 0000..FFFC; L\n# @missing: FFFE..10FFFF; L", api.ON, 0},
		{"0000..10FFFF; CS", api.CS, 1},
	} {
		table := tableOf(t, c.text)
		for _, r := range append(beyond, api.Replaced) {
			given, is := table.Given(r)
			if table.Class(r) != c.class || is != (c.line != 0) || is && given != c.class || !is && given != 0 || table.Line(r) != c.line {
				t.Errorf("%q: %X has %d, %d, %v, %d", c.text, r, table.Class(r), given, is, table.Line(r))
			}
		}
		isSaid(t, c.text)
	}
	table := tableOf(t, "D800..DFFF; BN\n0000; R\n10FFFF; AL")
	for r, want := range map[rune]api.Class{0xD7FF: api.L, 0xD800: api.BN, 0xDFFF: api.BN, 0xE000: api.L, 0: api.R, 1: api.L, 0x10FFFE: api.L, 0x10FFFF: api.AL} {
		if got := table.Class(r); got != want {
			t.Errorf("Class of %X = %d", r, got)
		}
	}
}

// P7.2, P7.5: the last missing line that has a code point holds, be it the greater or the lesser one.
func TestMissingLast(t *testing.T) {
	less, more, other := "# @missing: 0042..0044; R", "# @missing: 0040..0047; AL", "# @missing: 0042..0044; EN"
	for _, c := range []struct {
		text string
		want string // the classes of 3F to 48
	}{
		{less, "L L L R R R L L L L"},
		{more, "L AL AL AL AL AL AL AL AL L"},
		{text(more, less), "L AL AL R R R AL AL AL L"},
		{text(less, more), "L AL AL AL AL AL AL AL AL L"},
		{text(less, other), "L L L EN EN EN L L L L"},
		{text(other, less), "L L L R R R L L L L"},
		{text(less, less), "L L L R R R L L L L"},
		{text(more, less, more), "L AL AL AL AL AL AL AL AL L"},
		{text("# @missing: 0040..0044; R", "# @missing: 0043..0046; AL"), "L R R R AL AL AL AL L L"},
		{text("# @missing: 0043..0046; AL", "# @missing: 0040..0044; R"), "L R R R R R AL AL L L"},
		{text(more, "# @missing: 0043; L"), "L AL AL AL L AL AL AL AL L"},
		{text("# @missing: 0000..10FFFF; ON", less), "ON ON ON R R R ON ON ON ON"},
		{text(less, "# @missing: 0000..10FFFF; ON"), "ON ON ON ON ON ON ON ON ON ON"},
	} {
		table := tableOf(t, c.text)
		for i, name := range strings.Fields(c.want) {
			if got := table.Class(0x3F + rune(i)); got != classNamed(name) {
				t.Errorf("%q: Class of %X = %d, not %s", c.text, 0x3F+i, got, name)
			}
			if got, is := table.Given(0x3F + rune(i)); got != 0 || is || table.Line(0x3F+rune(i)) != 0 {
				t.Errorf("%q: Given of %X = %d, %v", c.text, 0x3F+i, got, is)
			}
		}
		isSaid(t, c.text)
	}
}

// P7.2, P7.5: what is named has its line's class, wherever a missing line stands that has it, too.
func TestMissingAndNamed(t *testing.T) {
	named, all := "0042..0043; R", "# @missing: 0040..0045; AL"
	for _, s := range []string{text(named, all), text(all, named), text(all, named, all), text("", named, "# n", all, all)} {
		table := tableOf(t, s)
		for r, want := range map[rune]api.Class{0x3F: api.L, 0x40: api.AL, 0x41: api.AL, 0x42: api.R, 0x43: api.R, 0x44: api.AL, 0x45: api.AL, 0x46: api.L} {
			if got := table.Class(r); got != want {
				t.Errorf("%q: Class of %X = %d", s, r, got)
			}
		}
		isSaid(t, s)
	}
	isSaid(t, text("# @missing: 0042; AL", "0040..0045; R"))
	isSaid(t, text("0040..0045; R", "# @missing: 0042..0050; AL"))
	isSaid(t, text("0000..10FFFF; R", "# @missing: 0000..10FFFF; AL"))
}

// P7.2: naming lines that do not rise, each with its own number, also where they stand next to one another.
func TestLineOfEach(t *testing.T) {
	list := []string{"0045; R", "0041..0042; R", "0050; L", "0043..0044; R", "# n", "0040; AL", "0000; L", "10FFFF; R", "0046; R"}
	table := tableOf(t, text(list...))
	for r, want := range map[rune]int{0x45: 1, 0x41: 2, 0x42: 2, 0x50: 3, 0x43: 4, 0x44: 4, 0x40: 6, 0: 7, 0x10FFFF: 8, 0x46: 9, 0x47: 0, 0x3F: 0, 0x4F: 0, 0x51: 0, 1: 0} {
		if got := table.Line(r); got != want {
			t.Errorf("Line of %X = %d", r, got)
		}
	}
	reversed := trial.Reversed(list)
	isSaid(t, text(reversed...))
	isSaid(t, mark+text(list...)+"\r\n")
}

// P7.5: each code point, by a look through the lines.
func TestEachCodePoint(t *testing.T) {
	s := text("# @missing: 0000..FFFF; ON", "D800..DFFF; BN", "# @missing: 0590..05FF; R", "FFFD; ET", "0030..0039; EN", "# @missing: 0600..0700; AL", "10FFFF; AN", "0000..0008; BN", "0700..0702; NSM", "# @missing: 06F0..07FF; R", "10000..1FFFF; L")
	table, list := tableOf(t, s), sayings(s)
	for r := rune(-2); r <= 0x110002; r++ {
		isAt(t, s, table, list, r)
	}
}

// P7.5: whatever else stands between the lines, and on them.
func TestBetweenLines(t *testing.T) {
	list := []string{"# @missing: 0040..0047; R", "0041; EN", "# @missing: 0042..0043; AL", "0043; CS", "0039; L"}
	plain := tableOf(t, text(list...))
	more := []string{"", " \t", "#", "# n", "# 0041; L", "# @missing", "# x @missing: 0041; L", "\t#\xc3\xa9;;", "#" + strings.Repeat("é", api.MaxLine-1)}
	for at := range len(list) + 1 {
		for _, m := range more {
			s := strings.Join(slices.Insert(slices.Clone(list), at, m), "\n")
			for _, s := range []string{s, mark + s, s + "\n", strings.ReplaceAll(s, "\n", "\r\n"), strings.ReplaceAll(s, ";", " \t;\t ")} {
				table := tableOf(t, s)
				for r := rune(0x38); r <= 0x48; r++ {
					line := plain.Line(r)
					if line > at {
						line++
					}
					given, is := table.Given(r)
					want, wantIs := plain.Given(r)
					if table.Class(r) != plain.Class(r) || given != want || is != wantIs || table.Line(r) != line {
						t.Fatalf("%q: %X has %d, %d, %v, the line %d", s, r, table.Class(r), given, is, table.Line(r))
					}
				}
				if table.Write() != plain.Write() {
					t.Fatalf("%q: Write = %q", s, table.Write())
				}
			}
		}
	}
}

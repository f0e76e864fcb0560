package base_test

import (
	"slices"
	"testing"

	"furrow/api"
	"furrow/trial"
)

// angles is the files of the brackets 28 and 29, 2329 and 232A, 3008 and 3009, each with a row in which its twin stands ("": none); no row of those that are not asked.
func angles(twins map[rune]string) api.Files {
	var lines []string
	for _, r := range []rune{0x28, 0x29, 0x2329, 0x232A, 0x3008, 0x3009} {
		if twin, is := twins[r]; is {
			lines = append(lines, line(digits(r), "ON", twin, "Y"))
		}
	}
	return api.Files{
		Rows:     text(lines...),
		Classes:  text("0028..0029; ON", "2329..232A; ON", "3008..3009; ON"),
		Brackets: text("3009; 3008; c", "0028; 0029; o", "232A; 2329; c", "2329; 232A; o", "0029; 0028; c", "3008; 3009; o"),
	}
}

// P10.1, P10.2: twins that may be; of what is the same as one that is tagged, or as two characters, nothing is said.
func TestTwins(t *testing.T) {
	f := angles(map[rune]string{0x28: "", 0x2329: "3008", 0x232A: "3009"})
	isBase(t, f)
	b := compiled(t, f)
	for r, twin := range map[rune]rune{0x28: 0x28, 0x29: 0x29, 0x2329: 0x3008, 0x232A: 0x3009, 0x3008: 0x3008, 0x3009: 0x3009, 0x41: 0x41} {
		if got := b.Twin(r); got != twin {
			t.Errorf("Twin of %X = %X", r, got)
		}
	}
	for _, f := range []api.Files{
		angles(map[rune]string{0x28: "3008", 0x29: "3009", 0x2329: "3008", 0x232A: "3009"}),
		angles(map[rune]string{0x28: "<compat> 3008", 0x29: "0028 0029", 0x2329: "<> 0041"}),
		angles(map[rune]string{0x28: "0000", 0x29: "0000"}), // 0 is none
		angles(map[rune]string{0x3009: "0029", 0x3008: "0028", 0x2329: "0028", 0x232A: "0029"}),
	} {
		isBase(t, f)
	}
}

// P10.1: twins that the book refuses, and at which row's line.
func TestTwinsRefused(t *testing.T) {
	for _, c := range []struct {
		twins map[rune]string
		line  int
	}{
		{map[rune]string{0x28: "", 0x29: "", 0x2329: "3008"}, 3},                             // its other one has none
		{map[rune]string{0x28: "0041"}, 1},                                                   // no bracket
		{map[rune]string{0x28: "0028"}, 1},                                                   // itself
		{map[rune]string{0x28: "3009", 0x29: "3008"}, 1},                                     // the other side
		{map[rune]string{0x28: "", 0x2329: "3008", 0x232A: "0029"}, 2},                       // of two pairs
		{map[rune]string{0x28: "2329", 0x29: "232A", 0x2329: "3008", 0x232A: "3009"}, 1},     // a twin of a twin
		{map[rune]string{0x2329: "3008", 0x232A: "3009", 0x3008: "0028", 0x3009: "0029"}, 1}, // so here
		{map[rune]string{0x2329: "3008", 0x232A: "3009", 0x3009: "0029"}, 2},
		{map[rune]string{0x28: "", 0x29: "", 0x3009: "10FFFF"}, 3},
		{map[rune]string{0x3008: "FFFD", 0x3009: "D800"}, 1},
	} {
		f := angles(c.twins)
		isFault(t, f, "rows", c.line, api.ErrTwin)
		isEither(t, f)
		f.Rows = "\n# n\r\n" + f.Rows
		isFault(t, f, "rows", c.line+2, api.ErrTwin)
	}
}

// P10.1: by rising At, whatever the order of the lines of brackets.
func TestTwinsInAnyOrder(t *testing.T) {
	wrong := angles(map[rune]string{0x28: "", 0x29: "0041", 0x2329: "0041", 0x232A: "", 0x3008: "", 0x3009: "0041"})
	right := angles(map[rune]string{0x2329: "3008", 0x232A: "3009"})
	lines := linesOf(wrong.Brackets)
	wants := filesOf(t, right)
	for order := range trial.Words([]int{0, 1, 2, 3, 4, 5}, len(lines)) {
		if len(slices.Compact(slices.Sorted(slices.Values(order)))) < len(lines) {
			continue
		}
		var turned []string
		for _, at := range order {
			turned = append(turned, lines[at])
		}
		wrong.Brackets, right.Brackets = text(turned...), text(turned...)
		isFault(t, wrong, "rows", 2, api.ErrTwin)
		b := compiled(t, right)
		if b.Files() != wants || b.Twin(0x2329) != 0x3008 || b.Twin(0x3008) != 0x3008 {
			t.Fatalf("%q has %+v", turned, b.Files())
		}
	}
}

// P10.1: a twin of what is no bracket counts for nothing, whatever it is.
func TestTwinsOfNoBrackets(t *testing.T) {
	for _, twin := range []string{"0041", "0028", "0042", "10FFFF", "D800"} {
		f := small()
		f.Rows = text(line("0028", "ON", "", "Y"), line("0029", "ON", "", "Y"), line("0041", "L", twin, "Y"), halves("0050", "0060", "L", twin, "N"))
		isBase(t, f)
		if b := compiled(t, f); b.Twin(0x41) != 0x41 || b.Twin(0x55) != 0x55 {
			t.Errorf("Twin = %X, %X", b.Twin(0x41), b.Twin(0x55))
		}
	}
}

// P10.1, P10.2: brackets within a row of First and Last have its twin, each of them.
func TestTwinsWithinRows(t *testing.T) {
	f := api.Files{
		Classes:  text("# @missing: 0000..10FFFF; ON"),
		Brackets: text("0010; 0110; o", "0110; 0010; c", "0020; 0120; o", "0120; 0020; c", "0030; 0130; o", "0130; 0030; c"),
		Rows:     text(halves("0011", "002F", "ON", "0010", "N"), halves("0111", "012F", "ON", "0110", "N")),
	}
	isBase(t, f)
	if b := compiled(t, f); b.Twin(0x20) != 0x10 || b.Twin(0x120) != 0x110 || b.Twin(0x21) != 0x21 || b.Twin(0x30) != 0x30 {
		t.Errorf("Twin = %X, %X, %X, %X", b.Twin(0x20), b.Twin(0x120), b.Twin(0x21), b.Twin(0x30))
	}
	f.Rows = text(halves("0011", "0030", "ON", "0010", "N"), halves("0111", "012F", "ON", "0110", "N"))
	isFault(t, f, "rows", 1, api.ErrTwin) // 30 is in it too, and 130 has none
	f.Rows = text(line("0005", "ON", "", "N"), halves("0010", "0030", "ON", "0010", "N"), halves("0111", "0130", "ON", "0110", "N"))
	isFault(t, f, "rows", 2, api.ErrTwin) // the row's own twin is in it
	f.Rows = text(halves("0011", "0030", "ON", "0010", "N"), halves("0111", "0130", "ON", "0110", "N"))
	isBase(t, f)
}

// P10.1, P10.2: all choices of twins of six brackets.
func TestTwinsAll(t *testing.T) {
	seen := map[api.Errno]int{}
	for choice := range trial.Words([]string{"", "0028", "0029", "3008", "3009"}, 4) {
		f := angles(map[rune]string{0x28: choice[0], 0x29: choice[1], 0x2329: choice[2], 0x232A: choice[3], 0x3008: "", 0x3009: ""})
		seen[isEither(t, f).Code]++
	}
	for choice := range trial.Words([]string{"", "0028", "0029", "2329", "232A", "3008", "3009"}, 3) {
		f := angles(map[rune]string{0x29: "", 0x2329: choice[0], 0x232A: choice[1], 0x3008: choice[2]})
		seen[isEither(t, f).Code]++
		f = angles(map[rune]string{0x28: choice[0], 0x29: choice[1], 0x232A: choice[2], 0x3009: choice[0]})
		seen[isEither(t, f).Code]++
	}
	if seen[api.OK] < 5 || seen[api.ErrTwin] < 500 || len(seen) != 2 {
		t.Errorf("%v", seen)
	}
}

package base_test

import (
	"math"
	"testing"

	"furrow/api"
	"furrow/base"
	"furrow/trial"
)

// edgy is files in which something is said of the ends of all code points, of a surrogate and of FFFD: 0 and 10FFFF are brackets and mirrors of one another, 1 and 2 mirrors alone, 3 and 4 brackets alone, FFFC and FFFD both, of unlike numbers, D800 and DFFF as well.
func edgy() api.Files {
	return api.Files{
		Rows:     text(halves("0000", "0002", "ON", "", "Y"), line("0005", "AL", "0006", "N"), halves("D800", "DFFF", "ON", "", "Y"), line("FFFC", "ON", "D800", "Y"), line("FFFD", "ON", "DFFF", "Y"), line("10FFFF", "ON", "", "Y")),
		Classes:  text("# @missing: 0000..10FFFF; R", "0000..0004; ON", "0005; AL", "D800..DFFF; ON", "FFFC..FFFD; ON", "10FFFF; ON"),
		Brackets: text("0000; 10FFFF; o", "10FFFF; 0000; c", "0004; 0003; c", "0003; 0004; o", "FFFC; FFFD; o", "FFFD; FFFC; c", "DFFF; D800; c", "D800; DFFF; o"),
		Mirrors:  text("10FFFF; 0000", "0001; 0002 # [BEST FIT] n", "0002; 0001", "0000; 10FFFF", "DFFF; FFFD", "FFFD; DFFF", "D800; FFFC", "FFFC; D800"),
	}
}

// P10.2: brackets, mirrors, both and neither, at the ends and in the midst of all code points.
func TestPoint(t *testing.T) {
	isBase(t, edgy())
	b := compiled(t, edgy())
	for r, want := range map[rune]api.Point{
		0:        {Class: api.ON, Other: 0x10FFFF, Side: api.Opens, Twin: 0, Mirror: 0x10FFFF, Turns: true},
		0x10FFFF: {Class: api.ON, Other: 0, Side: api.Closes, Twin: 0x10FFFF, Mirror: 0, Turns: true},
		1:        {Class: api.ON, Twin: 1, Mirror: 2, Turns: true},
		2:        {Class: api.ON, Twin: 2, Mirror: 1, Turns: true},
		3:        {Class: api.ON, Other: 4, Side: api.Opens, Twin: 3, Mirror: 3},
		4:        {Class: api.ON, Other: 3, Side: api.Closes, Twin: 4, Mirror: 4},
		5:        {Class: api.AL, Twin: 5, Mirror: 5},
		6:        {Class: api.R, Twin: 6, Mirror: 6},
		0xD800:   {Class: api.ON, Other: 0xDFFF, Side: api.Opens, Twin: 0xD800, Mirror: 0xFFFC, Turns: true},
		0xDC00:   {Class: api.ON, Twin: 0xDC00, Mirror: 0xDC00},
		0xFFFC:   {Class: api.ON, Other: 0xFFFD, Side: api.Opens, Twin: 0xD800, Mirror: 0xD800, Turns: true},
		0x10FFFE: {Class: api.R, Twin: 0x10FFFE, Mirror: 0x10FFFE},
	} {
		isPoint(t, b, r, want)
	}
}

// P10.2, P10.4: numbers below 0 and above 10FFFF have all that FFFD has.
func TestPointOfNoPoints(t *testing.T) {
	b := compiled(t, edgy())
	replaced := api.Point{Class: api.ON, Other: 0xFFFC, Side: api.Closes, Twin: 0xDFFF, Mirror: 0xDFFF, Turns: true}
	plain := api.Point{Class: api.L, Twin: 0xFFFD, Mirror: 0xFFFD}
	for _, r := range []rune{0xFFFD, -1, -2, math.MinInt32, beyond, beyond + 1, math.MaxInt32} {
		isPoint(t, b, r, replaced)
		if p, err := base.Naive(edgy(), r); p != replaced || err != nil {
			t.Errorf("Naive of %X = %+v, %v", r, p, err)
		}
		isPoint(t, compiled(t, small()), r, plain)
		if p, err := base.Naive(small(), r); p != plain || err != nil {
			t.Errorf("Naive of %X = %+v, %v", r, p, err)
		}
	}
}

// P10.2, P10.3: a nil base, one that no call made, and one that was refused have nothing, not even of themselves.
func TestNilBase(t *testing.T) {
	var none *base.Base
	refused, _ := base.Compile(api.Files{Rows: "x"})
	for _, b := range []*base.Base{none, refused, {}, new(base.Base)} {
		for _, r := range []rune{math.MinInt32, -1, 0, 0x28, 0x41, api.Replaced, api.MaxRune, beyond, math.MaxInt32} {
			isPoint(t, b, r, api.Point{})
		}
		isTold(t, b, nil, nil)
		if got := b.Files(); got != (api.Files{}) {
			t.Errorf("Files = %+v", got)
		}
	}
}

// P10.2, P10.5: each code point of a base, one by one.
func TestEachPoint(t *testing.T) {
	for _, f := range []api.Files{small(), edgy()} {
		b := compiled(t, f)
		special := map[rune]api.Point{}
		for _, m := range pointsOf(f) {
			special[m.A] = m.B
		}
		ranges := classesOf(f)
		for r := rune(0); r <= api.MaxRune; r++ {
			for r > ranges[0].A.Hi {
				ranges = ranges[1:]
			}
			want, is := special[r]
			if !is {
				want = api.Point{Class: ranges[0].B, Twin: r, Mirror: r}
			}
			isPoint(t, b, r, want)
			mayBe(t, b, r)
		}
	}
}

// P10.2: a base is an api.Props.
func TestBaseIsProps(t *testing.T) {
	var props api.Props = compiled(t, small())
	if to, is := props.Mirror(0x28); to != 0x29 || !is || props.Class(0x29) != api.ON {
		t.Errorf("Mirror = %X, %v", to, is)
	}
}

// P10.3: Classes of files with no line, with defaults alone, and of classes next to one another that are alike.
func TestClasses(t *testing.T) {
	whole := func(hi rune, class api.Class, more ...ranged) []ranged {
		return append([]ranged{{A: api.Range{Lo: 0, Hi: hi}, B: class}}, more...)
	}
	next := func(lo, hi rune, class api.Class) ranged { return ranged{A: api.Range{Lo: lo, Hi: hi}, B: class} }
	for _, c := range []struct {
		lines []string
		want  []ranged
	}{
		{nil, whole(api.MaxRune, api.L)},
		{[]string{"# @missing: 0000..10FFFF; R"}, whole(api.MaxRune, api.R)},
		{[]string{"# @missing: 0590..05FF; R"}, whole(0x58F, api.L, next(0x590, 0x5FF, api.R), next(0x600, api.MaxRune, api.L))},
		{[]string{"# @missing: 0000..05FF; R", "# @missing: 0600..10FFFF; R"}, whole(api.MaxRune, api.R)},
		{[]string{"# @missing: 0590..05FF; R", "# @missing: 05A0..05AF; L"}, whole(0x58F, api.L, next(0x590, 0x59F, api.R), next(0x5A0, 0x5AF, api.L), next(0x5B0, 0x5FF, api.R), next(0x600, api.MaxRune, api.L))},
		{[]string{"0040; R", "0041; R", "0042..0050; R"}, whole(0x3F, api.L, next(0x40, 0x50, api.R), next(0x51, api.MaxRune, api.L))},
		{[]string{"0042..0050; R", "0040; R", "0041; R"}, whole(0x3F, api.L, next(0x40, 0x50, api.R), next(0x51, api.MaxRune, api.L))},
		{[]string{"0040; R", "# @missing: 0041..0050; R"}, whole(0x3F, api.L, next(0x40, 0x50, api.R), next(0x51, api.MaxRune, api.L))},
		{[]string{"# @missing: 0041..0050; R", "0045; AL"}, whole(0x40, api.L, next(0x41, 0x44, api.R), next(0x45, 0x45, api.AL), next(0x46, 0x50, api.R), next(0x51, api.MaxRune, api.L))},
		{[]string{"0041; L"}, whole(api.MaxRune, api.L)},
		{[]string{"0000; B", "10FFFF; PDI"}, whole(0, api.B, next(1, api.MaxRune-1, api.L), next(api.MaxRune, api.MaxRune, api.PDI))},
	} {
		f := api.Files{Classes: text(c.lines...)}
		isTold(t, compiled(t, f), c.want, nil)
		isBase(t, f)
	}
}

// P10.3: Points of brackets without a mirror and of mirrors that are no brackets, in any order beside one another.
func TestPoints(t *testing.T) {
	pairs := [][]rune{{0x10, 0x50}, {0x20, 0x60}, {0x30, 0x40}, {0, api.MaxRune}}
	const bracket, mirror = 1, 2
	for kinds := range trial.Words([]int{0, bracket, mirror, bracket | mirror}, len(pairs)) {
		f := api.Files{Rows: text(halves("0000", "10FFFF", "ON", "", "Y")), Classes: text("# @missing: 0000..10FFFF; ON")}
		for i, kind := range kinds {
			one, other := digits(pairs[i][0]), digits(pairs[i][1])
			if kind&bracket != 0 {
				f.Brackets = text(one+"; "+other+"; o", other+"; "+one+"; c") + f.Brackets
			}
			if kind&mirror != 0 {
				f.Mirrors += text(other+"; "+one, one+"; "+other)
			}
		}
		isBase(t, f)
	}
}

// P10.3: a bracket's mirror need not be its other one.
func TestPointsUnlike(t *testing.T) {
	f := small()
	f.Rows = text(halves("0028", "0029", "ON", "", "Y"), halves("0041", "0042", "L", "", "Y"))
	f.Mirrors = text("0028; 0041", "0041; 0028", "0042; 0029", "0029; 0042")
	isBase(t, f)
	got := trial.Collect(compiled(t, f).Points())
	if len(got) != 4 || got[0].B != (api.Point{Class: api.ON, Other: 0x29, Side: api.Opens, Twin: 0x28, Mirror: 0x41, Turns: true}) || got[3].B != (api.Point{Class: api.L, Twin: 0x42, Mirror: 0x29, Turns: true}) {
		t.Errorf("Points tells %+v", got)
	}
}

// P0.1, P10.3: walks that are left early, gone over again, and one within the other.
func TestLeftEarly(t *testing.T) {
	brackets := edgy()
	brackets.Mirrors = ""
	mirrors := edgy()
	mirrors.Brackets = ""
	for _, f := range []api.Files{edgy(), brackets, mirrors} {
		b := compiled(t, f)
		if wrong := trial.LeaveEarly(b.Points()); wrong != "" {
			t.Errorf("Points of %+v: %s", f, wrong)
		}
		if wrong := trial.LeaveEarly(b.Classes()); wrong != "" {
			t.Errorf("Classes of %+v: %s", f, wrong)
		}
	}
}

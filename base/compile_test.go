package base_test

import (
	"strings"
	"testing"

	"furrow/api"
	"furrow/base"
)

// P10.1 to P10.3: the chapter's examples.
func TestExamples(t *testing.T) {
	b := compiled(t, small())
	isPoint(t, b, 0x28, api.Point{Class: api.ON, Other: 0x29, Side: api.Opens, Twin: 0x28, Mirror: 0x29, Turns: true})
	isPoint(t, b, 0x41, api.Point{Class: api.L, Twin: 0x41, Mirror: 0x41})
	isPoint(t, b, 0x42, api.Point{Class: api.L, Twin: 0x42, Mirror: 0x42})
	isTold(t, b, []ranged{{A: api.Range{Lo: 0, Hi: 0x27}, B: api.L}, {A: api.Range{Lo: 0x28, Hi: 0x29}, B: api.ON}, {A: api.Range{Lo: 0x2A, Hi: 0x10FFFF}, B: api.L}},
		[]marked{{A: 0x28, B: b.Point(0x28)}, {A: 0x29, B: b.Point(0x29)}})
	isBase(t, small())

	f := small()
	f.Classes += "0041; R\n"
	isFault(t, f, "rows", 3, api.ErrUnlike)
	f = small()
	f.Classes = ""
	isFault(t, f, "rows", 1, api.ErrUnlike)
	f = small()
	f.Mirrors = text("0041; 0042", "0042; 0041") + f.Mirrors
	isFault(t, f, "mirrors", 1, api.ErrUnlike)
	f = small()
	f.Mirrors += "x"
	f.Rows += "y"
	isFault(t, f, "rows", 4, api.ErrCells)
	f = small()
	f.Brackets += text("005B; 005D; o", "005D; 005B; c")
	isFault(t, f, "brackets", 3, api.ErrUnlike)
}

// P10.1: files without a line say of all code points the same.
func TestCompileNothing(t *testing.T) {
	for _, nothing := range []string{"", "\n", "# n\n", " \t\r\n\n# n", mark, mark + "# n\r\n"} {
		f := api.Files{Rows: nothing, Classes: nothing, Brackets: nothing, Mirrors: nothing}
		isBase(t, f)
		b := compiled(t, f)
		if got := b.Files(); got != (api.Files{}) {
			t.Errorf("Files = %+v", got)
		}
		isTold(t, b, []ranged{{A: api.Range{Lo: 0, Hi: api.MaxRune}, B: api.L}}, nil)
		isPoint(t, b, -1, api.Point{Class: api.L, Twin: api.Replaced, Mirror: api.Replaced})
	}
}

// P10.1: each file alone, the others without a line.
func TestCompileOneFile(t *testing.T) {
	isBase(t, api.Files{Rows: text(line("0041", "L", "", "N"), halves("0050", "0060", "L", "0041", "Y"))})
	isFault(t, api.Files{Rows: small().Rows}, "rows", 1, api.ErrUnlike)
	isBase(t, api.Files{Classes: text("# @missing: 0590..05FF; R", "0028..0029; ON", "05D0; AL")})
	isFault(t, api.Files{Brackets: small().Brackets}, "brackets", 1, api.ErrUnlike)
	isBase(t, api.Files{Brackets: small().Brackets, Classes: small().Classes}) // a bracket needs no row
	isFault(t, api.Files{Mirrors: small().Mirrors}, "mirrors", 1, api.ErrUnlike)
	isBase(t, api.Files{Mirrors: small().Mirrors, Rows: text(halves("0020", "0030", "L", "", "Y"))}) // a mirror needs no bracket
}

// wrongLines is lines that are wrong whatever stands ahead of them in small, each with its error.
func wrongLines() map[string][]struct {
	line string
	why  api.Errno
} {
	type wrong = struct {
		line string
		why  api.Errno
	}
	return map[string][]wrong{
		"rows": {
			{"x", api.ErrCells}, {"@x", api.ErrOrder}, {"@x: y", api.ErrOrder}, {"\xff", api.ErrBytes}, {"\x01", api.ErrControl}, {strings.Repeat("x", 4097), api.ErrWide},
			{line("41", "L", "", "N"), api.ErrHex}, {line("0042", "X", "", "N"), api.ErrNoClass}, {line("0042", "L", "x", "N"), api.ErrMap}, {line("0042", "L", "", "y"), api.ErrFlag},
			{line("0041", "L", "", "N"), api.ErrRising}, {"0042;<A, First>;Lo;0;L;;;;;N;;;;;", api.ErrName}, {"0042;<A, Last>;Lo;0;L;;;;;N;;;;;", api.ErrName},
		},
		"classes": {
			{"0041", api.ErrColumns}, {"@x", api.ErrOrder}, {"@x: y", api.ErrOrder}, {"\xff", api.ErrBytes}, {"0041; X", api.ErrNoClass}, {"x; L", api.ErrHex}, {"0042..0041; L", api.ErrRange}, {"0029..0041; ON", api.ErrMeet}, {"# @missing: 0041", api.ErrMissing}, {"# @missing: x; L", api.ErrHex},
		},
		"brackets": {
			{"0041; 0042", api.ErrBracket}, {"@x", api.ErrOrder}, {"@x: y", api.ErrBracket}, {"\xff", api.ErrBytes}, {"x; 0041; o", api.ErrHex}, {"0041; 0042; x", api.ErrNoSide}, {"0041; 0041; o", api.ErrBracket}, {"0028; 0029; o", api.ErrTwice}, {"0041; 0042; o", api.ErrLone},
		},
		"mirrors": {
			{"0041", api.ErrCells}, {"@x", api.ErrOrder}, {"@x: y", api.ErrOrder}, {"\xff", api.ErrBytes}, {"x; 0041", api.ErrHex}, {"0041; 0041", api.ErrSelf}, {"0028; 0029", api.ErrAgain}, {"0041; 0042", api.ErrTwist},
		},
	}
}

// P10.1: each file alone wrong, in each way in which its own layer refuses it.
func TestCompileOneWrong(t *testing.T) {
	for name, list := range wrongLines() {
		for _, wrong := range list {
			f := small()
			*fileOf(&f, name) += wrong.line
			isFault(t, f, name, len(linesOf(*fileOf(&f, name))), wrong.why)
			*fileOf(&f, name) = "\n# n\n" + *fileOf(&f, name) + "\n# n\n"
			isFault(t, f, name, len(linesOf(*fileOf(&f, name)))-1, wrong.why)
		}
	}
}

// P10.1: two files wrong at once, and three, and all: the first in the order of the files is told.
func TestCompileMoreWrong(t *testing.T) {
	for which := range 1 << 4 {
		f := small()
		first := ""
		for i, name := range names() {
			if which>>i&1 == 0 {
				continue
			}
			*fileOf(&f, name) = "\nx\n"
			if first == "" {
				first = name
			}
		}
		if first == "" {
			isBase(t, f)
			continue
		}
		why := map[string]api.Errno{"rows": api.ErrCells, "classes": api.ErrColumns, "brackets": api.ErrBracket, "mirrors": api.ErrCells}[first]
		isFault(t, f, first, 2, why)
	}
}

// P10.1: what a file's own layer refuses is told ahead of all that two files say unlike.
func TestCompileReadAhead(t *testing.T) {
	for _, name := range names() {
		f := small()
		f.Classes = "" // all of the rows and the brackets are unlike now
		*fileOf(&f, name) = text("# n", "x")
		if fault := faultOf(f); fault.File != name || fault.Line != 2 {
			t.Fatalf("%v is told", fault)
		}
		isEither(t, f)
	}
}

// kindsOfWrong is what may be unlike, in the order in which it is told: each turns files of which it is wrong then.
func kindsOfWrong() []func(f *api.Files) (file string, line int, why api.Errno) {
	return []func(f *api.Files) (string, int, api.Errno){
		func(f *api.Files) (string, int, api.Errno) {
			f.Rows += text("# n", line("0060", "R", "", "N"))
			return "rows", strings.Count(f.Rows, "\n"), api.ErrUnlike
		},
		func(f *api.Files) (string, int, api.Errno) {
			f.Brackets += text("", "0070; 0071; o", "0071; 0070; c")
			return "brackets", strings.Count(f.Brackets, "\n") - 1, api.ErrUnlike
		},
		func(f *api.Files) (string, int, api.Errno) {
			f.Rows = strings.Replace(f.Rows, ";ON;;", ";ON;0042;", 1)
			return "rows", 1, api.ErrTwin
		},
		func(f *api.Files) (string, int, api.Errno) {
			f.Mirrors += text("0041; 0042", "0042; 0041")
			return "mirrors", 3, api.ErrUnlike
		},
	}
}

// P10.1: several things unlike at once: the first in the order of the promise is told.
func TestCompileOrder(t *testing.T) {
	kinds := kindsOfWrong()
	for which := 1; which < 1<<len(kinds); which++ {
		f := small()
		var want *api.Fault
		for i, wrong := range kinds {
			if which>>i&1 == 0 {
				continue
			}
			if file, line, why := wrong(&f); want == nil {
				want = &api.Fault{File: file, Line: line, Code: why}
			}
		}
		isFault(t, f, want.File, want.Line, want.Code)
		isEither(t, f)
	}
}

// P10.1: rows whose class is unlike at their first number, at their last, and at each in between.
func TestCompileRowClass(t *testing.T) {
	f := api.Files{Rows: text(line("003F", "L", "", "N"), "# n", halves("0040", "004F", "R", "", "N"), line("0050", "L", "", "N"))}
	for _, right := range []string{text("0040..004F; R"), text("# @missing: 0040..004F; R"), text("# @missing: 0000..10FFFF; AL", "# @missing: 0000..10FFFF; L", "0040..0047; R", "# @missing: 0048..004F; R"), text("0040; R", "004F; R", "0041..004E; R")} {
		f.Classes = right
		isBase(t, f)
	}
	for r := rune(0x40); r <= 0x4F; r++ {
		f.Classes = text("# @missing: 0040..004F; R", digits(r)+"; AL")
		isFault(t, f, "rows", 3, api.ErrUnlike)
		isEither(t, f)
		f.Classes = text("# @missing: 0040..004F; R", "# @missing: "+digits(r)+"; L")
		isFault(t, f, "rows", 3, api.ErrUnlike)
	}
	for _, r := range []string{"003F", "0050"} { // the neighbours are asked by their own rows
		f.Classes = text("0040..004F; R", r+"; R")
		isFault(t, f, "rows", map[string]int{"003F": 1, "0050": 5}[r], api.ErrUnlike)
	}
	f.Classes = text("0040..004F; AL") // unlike at all
	isFault(t, f, "rows", 3, api.ErrUnlike)
	f.Classes = text("0040..004F; R", "003E; R", "0051; R")
	isBase(t, f)
}

// P10.1: of several unlike rows the first is told; of rows at the ends of all code points, too.
func TestCompileFirstRow(t *testing.T) {
	f := api.Files{Rows: text(line("0000", "R", "", "N"), "", halves("D800", "DFFF", "R", "", "N"), halves("FFFE", "10FFFF", "R", "", "N"))}
	lines := []int{1, 3, 5}
	for which := range 1 << 3 {
		f.Classes = text("# @missing: 0000..10FFFF; R")
		first := 0
		for i, r := range []string{"0000", "DABC", "10FFFF"} {
			if which>>i&1 == 0 {
				continue
			}
			f.Classes += text(r + "; EN")
			if first == 0 {
				first = lines[i]
			}
		}
		if first == 0 {
			isBase(t, f)
		} else {
			isFault(t, f, "rows", first, api.ErrUnlike)
			isEither(t, f)
		}
	}
	whole := api.Files{Rows: text(halves("0000", "10FFFF", "L", "", "N"))}
	isBase(t, whole)
	for _, r := range []string{"0000", "8000", "10FFFF"} {
		whole.Classes = r + "; ON"
		isFault(t, whole, "rows", 1, api.ErrUnlike)
	}
}

// P10.1: what is named holds ahead of what is missing, and of that the last line, whether a row says so or not.
func TestCompileRowDefaults(t *testing.T) {
	f := api.Files{Rows: text(line("05D0", "R", "", "N"))}
	f.Classes = text("05D0; R", "# @missing: 0590..05FF; AL")
	isBase(t, f)
	f.Classes = text("# @missing: 0590..05FF; R", "# @missing: 05D0; AL")
	isFault(t, f, "rows", 1, api.ErrUnlike)
	f.Classes = text("# @missing: 05D0; AL", "# @missing: 0590..05FF; R")
	isBase(t, f)
	f.Classes = text("05D0; Right_To_Left")
	isBase(t, f)
}

// P10.1: a bracket that is not ON, behind lines that say nothing: the line's own number is told.
func TestCompileBracketClass(t *testing.T) {
	for _, ahead := range []string{"", "\n", "# n\n", "# @missing: 0041; 0042; o\n", "\r\n \t\n#\n# @missing: 0028\n\n"} {
		for _, mark := range []string{"", mark} {
			f := small()
			f.Brackets = mark + ahead + f.Brackets + ahead + "005B; 005D; o # [\n" + ahead + "005D; 005B; c"
			first := strings.Count(ahead+ahead, "\n") + 3
			isFault(t, f, "brackets", first, api.ErrUnlike)
			f.Classes += "005B; ON\n"
			isFault(t, f, "brackets", first+strings.Count(ahead, "\n")+1, api.ErrUnlike)
			isEither(t, f)
			f.Classes += "005D; Other Neutral\n"
			isBase(t, f)
		}
	}
	for class := range strings.FieldsSeq("L R AL EN ES ET AN CS NSM BN B S WS LRE LRO RLE RLO PDF LRI RLI FSI PDI") {
		f := api.Files{Classes: text("0028; " + class), Brackets: text("0029; 0028; c", "0028; 0029; o")}
		isFault(t, f, "brackets", 1, api.ErrUnlike)
		f.Classes += text("0029; ON")
		isFault(t, f, "brackets", 2, api.ErrUnlike)
	}
}

// P10.1: by the order of the lines, not of the brackets.
func TestCompileFirstBracketLine(t *testing.T) {
	f := api.Files{Classes: text("0028..0029; ON"), Brackets: text("007D; 007B; c", "0028; 0029; o", "005B; 005D; o", "0029; 0028; c", "007B; 007D; o", "005D; 005B; c")}
	isFault(t, f, "brackets", 1, api.ErrUnlike)
	f.Classes += text("007B..007D; ON")
	isFault(t, f, "brackets", 3, api.ErrUnlike)
	f.Classes += text("005B; ON")
	isFault(t, f, "brackets", 6, api.ErrUnlike)
	f.Classes += text("005D; ON")
	isBase(t, f)
}

// P10.1: a mirror whose From no row names, or one that is not Mirrored, of one line and of two.
func TestCompileMirrors(t *testing.T) {
	f := api.Files{Mirrors: text("# n", "0044; 0041 # [BEST FIT]", "", "0041; 0044", "0000; 10FFFF", "10FFFF; 0000")}
	for _, c := range []struct {
		rows []string
		line int
	}{
		{nil, 2},
		{[]string{line("0041", "L", "", "Y")}, 2},
		{[]string{line("0044", "L", "", "Y")}, 4},
		{[]string{line("0041", "L", "", "Y"), line("0044", "L", "", "N")}, 2},
		{[]string{line("0041", "L", "", "N"), line("0044", "L", "", "Y")}, 4},
		{[]string{line("0041", "L", "", "N"), line("0044", "L", "", "N")}, 2},
		{[]string{halves("0040", "0050", "L", "", "N")}, 2},
		{[]string{halves("0041", "0043", "L", "", "Y")}, 2},
		{[]string{halves("0042", "0044", "L", "", "Y")}, 4},
		{[]string{line("0040", "L", "", "Y"), line("0045", "L", "", "Y")}, 2},
		{[]string{halves("0040", "0050", "L", "", "Y")}, 5},
		{[]string{halves("0041", "0044", "L", "", "Y")}, 5},
		{[]string{halves("0000", "0044", "L", "", "Y")}, 6},
		{[]string{halves("0041", "10FFFF", "L", "", "Y")}, 5},
		{[]string{line("0000", "L", "", "Y"), halves("0041", "0044", "L", "", "Y"), line("10FFFF", "L", "", "N")}, 6},
	} {
		f.Rows = text(c.rows...)
		isFault(t, f, "mirrors", c.line, api.ErrUnlike)
		isEither(t, f)
	}
	for _, rows := range [][]string{
		{halves("0000", "10FFFF", "L", "", "Y")},
		{line("0000", "L", "", "Y"), line("0041", "L", "", "Y"), line("0042", "L", "", "N"), line("0044", "L", "", "Y"), line("10FFFF", "L", "", "Y")},
		{halves("0000", "0001", "L", "", "Y"), halves("0040", "0041", "L", "", "Y"), halves("0044", "0045", "L", "", "Y"), halves("10FFFE", "10FFFF", "L", "", "Y")},
	} {
		f.Rows = text(rows...)
		isBase(t, f)
	}
}

// P10.1: a row that is Mirrored needs no mirror, and a bracket none.
func TestCompileWithoutMirrors(t *testing.T) {
	f := small()
	f.Mirrors = ""
	isBase(t, f)
	f.Rows = strings.ReplaceAll(f.Rows, ";Y;", ";N;")
	isBase(t, f)
	f.Mirrors = small().Mirrors
	isFault(t, f, "mirrors", 1, api.ErrUnlike)
}

// P10.1: beside a fault there is no base, not even one that answers nothing.
func TestCompileBesideFault(t *testing.T) {
	for _, f := range []api.Files{{Rows: "x"}, {Classes: "x"}, {Brackets: "x"}, {Mirrors: "x"}, {Rows: small().Rows}, {Brackets: small().Brackets}, {Mirrors: small().Mirrors}} {
		b, err := base.Compile(f)
		if b != nil || err == nil {
			t.Errorf("Compile of %+v = %v, %v", f, b, err)
		}
		if p, err := base.Naive(f, 0x28); p != (api.Point{}) || err == nil {
			t.Errorf("Naive of %+v = %+v, %v", f, p, err)
		}
	}
	b, err := base.Compile(small())
	if p, naive := base.Naive(small(), 0x28); b == nil || err != nil || p == (api.Point{}) || naive != nil {
		t.Errorf("%v, %v, %+v, %v", b, err, p, naive)
	}
}

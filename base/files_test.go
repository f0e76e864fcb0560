package base_test

import (
	"slices"
	"strings"
	"testing"

	"furrow/api"
	"furrow/base"
	"furrow/trial"
)

// P10.3, P10.6: the texts of a base, of files in which there is more than need be.
func TestFiles(t *testing.T) {
	f := api.Files{
		Rows:     mark + "# n\n0028;A;Ps;0;ON;<compat> 0041 0042;1;2;3;Y;OLD NAME;x;y;z;w # n\r\n" + text("0029;B;Pe;0;ON;;;;;Y;;;;;", "", halves("0030", "0033", "EN", "", "N"), "0300;M;Mn;230;L;0301;;;;N;;;;;"),
		Classes:  text("0033 ; EN", "# n", "0030..0032 ; European Number", "#  @missing:  0590..05FF ;R# n", "0028;on", "0029; ON"),
		Brackets: text("0029;0028;Close # n", "", "0028;0029;open"),
		Mirrors:  text("0029;0028#[BEST FIT] n", "# n", "0028;0029 # n"),
	}
	want := api.Files{
		Rows:     text("0028;A;Ps;0;ON;;;;;Y;;;;;", "0029;B;Pe;0;ON;;;;;Y;;;;;", halves("0030", "0033", "EN", "", "N"), "0300;M;Mn;230;L;0301;;;;N;;;;;"),
		Classes:  text("# @missing: 0590..05FF; Right_To_Left", "0028..0029; ON", "0030..0033; EN"),
		Brackets: text("0028; 0029; o", "0029; 0028; c"),
		Mirrors:  text("0029; 0028 # [BEST FIT]", "0028; 0029"),
	}
	if got := compiled(t, f).Files(); got != want {
		t.Errorf("Files = %+v", got)
	}
	isBase(t, f)
	isBase(t, want)
}

// P10.6: files that are as they are written come back as they are.
func TestFilesAsTheyAre(t *testing.T) {
	for _, f := range []api.Files{{}, small(), filesOf(t, edgy())} {
		if got := compiled(t, f).Files(); got != f {
			t.Errorf("Files of %+v = %+v", f, got)
		}
	}
}

// choices is some texts of each file, right ones, wrong ones, and ones that do not go with others.
func choices() (rows, classes, brackets, mirrors []string) {
	rows = []string{
		"",
		small().Rows,
		text(line("0028", "ON", "005B", "Y"), line("0029", "ON", "005D", "Y"), line("0041", "L", "", "Y"), line("0042", "L", "0041", "Y")),
		text(halves("0028", "0041", "ON", "", "Y")),
		text(halves("0028", "005A", "ON", "005B", "Y"), line("005D", "ON", "", "N")),
		text(line("0028", "ON", "", "Y"), line("0029", "L", "", "N"), halves("0041", "005D", "ON", "", "Y")),
		text(line("0041", "L", "", "Y"), line("0028", "ON", "", "Y")),
	}
	classes = []string{
		"",
		small().Classes,
		text("# @missing: 0000..10FFFF; ON"),
		text("# @missing: 0000..10FFFF; ON", "0041..0042; L"),
		text("0028; ON", "0029..0029; ON", "005B..005D; ON", "0041; R"),
		text("0028..0040; ON", "# @missing: 0041..005D; ON"),
		text("0028; ON", "0028; ON"),
	}
	brackets = []string{
		"",
		small().Brackets,
		text("005D; 005B; c", "0028; 0029; o", "005B; 005D; o", "0029; 0028; c"),
		text("", "0041; 0042; o", "0042; 0041; c"),
		text("0028; 0029; o"),
	}
	mirrors = []string{
		"",
		small().Mirrors,
		text("005D; 005B", "005B; 005D"),
		text("0042; 0041", "0028; 0029", "0041; 0042", "0029; 0028"),
		text("0028; 0029", "0029; 002A", "002A; 0029"),
	}
	return rows, classes, brackets, mirrors
}

// combined tells the files of all choices.
func combined(each func(f api.Files)) {
	rows, classes, brackets, mirrors := choices()
	for _, r := range rows {
		for _, c := range classes {
			for _, g := range brackets {
				for _, m := range mirrors {
					each(api.Files{Rows: r, Classes: c, Brackets: g, Mirrors: m})
				}
			}
		}
	}
}

// P10.1 to P10.7: all of these choices held against the words.
func TestAllChoices(t *testing.T) {
	seen := map[api.Fault]int{}
	combined(func(f api.Files) {
		fault := isEither(t, f)
		fault.Line = 0
		seen[fault]++
	})
	for _, fault := range []api.Fault{
		{}, {File: "rows", Code: api.ErrRising}, {File: "classes", Code: api.ErrMeet}, {File: "brackets", Code: api.ErrLone}, {File: "mirrors", Code: api.ErrTwist},
		{File: "rows", Code: api.ErrUnlike}, {File: "brackets", Code: api.ErrUnlike}, {File: "rows", Code: api.ErrTwin}, {File: "mirrors", Code: api.ErrUnlike},
	} {
		if seen[fault] < 3 {
			t.Errorf("%v only %d times", &fault, seen[fault])
		}
	}
}

// saysNothing is lines that say nothing, whatever file they stand in.
func saysNothing() []string { return []string{"", " \t", "# n", "#", "# @missing", "# 0028; 0029; o"} }

// isFaultAt holds the fault of f against the one that there was ahead: the same, at the line that reads as it did then.
func isFaultAt(t *testing.T, f, ahead api.Files, fault api.Fault) {
	t.Helper()
	got, err := base.Compile(f)
	if fault == (api.Fault{}) {
		if got == nil || err != nil {
			t.Fatalf("Compile of %+v = %v", f, err)
		}
		return
	}
	now, is := err.(*api.Fault)
	if !is || got != nil || now.File != fault.File || now.Code != fault.Code {
		t.Fatalf("Compile of %+v = %v, %v, not %v", f, got, err, &fault)
	}
	was, at := linesOf(*fileOf(&ahead, fault.File)), linesOf(*fileOf(&f, fault.File))
	if strings.TrimSuffix(at[now.Line-1], "# n") != was[fault.Line-1] {
		t.Fatalf("Compile of %+v = %v, not the line %q", f, now, was[fault.Line-1])
	}
}

// P10.8: notes and blank lines, put in anywhere in each file.
func TestNotesPutIn(t *testing.T) {
	combined(func(f api.Files) {
		fault := api.Fault{}
		if wrong := faultOf(f); wrong != nil {
			fault = *wrong
		}
		for _, name := range names() {
			lines := linesOf(*fileOf(&f, name))
			for at := range len(lines) + 1 {
				g := f
				*fileOf(&g, name) = text(slices.Insert(slices.Clone(lines), at, saysNothing()...)...)
				isFaultAt(t, g, f, fault)
			}
			g := f
			for i := range lines {
				lines[i] += "# n"
			}
			*fileOf(&g, name) = text(lines...)
			isFaultAt(t, g, f, fault)
		}
	})
}

// P10.8: a missing line says nothing but in the file of classes.
func TestMissingLinesPutIn(t *testing.T) {
	for _, name := range []string{"rows", "brackets", "mirrors"} {
		for at := range 3 {
			f := small()
			lines := linesOf(*fileOf(&f, name))
			*fileOf(&f, name) = text(slices.Insert(lines, at, "# @missing: 0028; 0041; o", "# @missing:")...)
			isBase(t, f)
		}
	}
}

// orders tells the lines in each order.
func orders(lines []string, each func(turned []string)) {
	if len(lines) < 2 {
		each(slices.Clone(lines))
		return
	}
	for i, first := range lines {
		orders(slices.Delete(slices.Clone(lines), i, i+1), func(turned []string) {
			each(append([]string{first}, turned...))
		})
	}
}

// lonelyWrong is files of which one line alone of the brackets or of the mirrors is wrong, or none.
func lonelyWrong() []api.Files {
	four := api.Files{
		Rows:     text(line("0028", "ON", "", "Y"), line("0029", "ON", "", "Y"), line("0041", "L", "", "N"), line("005B", "ON", "", "Y"), line("005D", "ON", "", "Y")),
		Classes:  text("0028..0029; ON", "005B..005D; ON"),
		Brackets: text("0028; 0029; o", "0029; 0028; c", "005B; 005D; o", "005D; 005B; c"),
		Mirrors:  text("0028; 0029", "0029; 0028", "005B; 005D", "005D; 005B"),
	}
	unnamed, plain, strong := four, four, four
	unnamed.Rows = text(linesOf(four.Rows)[:4]...)
	plain.Rows = strings.Replace(four.Rows, line("0029", "ON", "", "Y"), line("0029", "ON", "", "N"), 1)
	strong.Classes = text("0028..0029; ON", "005D; ON", "# @missing: 005B; R")
	strong.Rows = strings.Replace(four.Rows, line("005B", "ON", "", "Y"), line("005B", "R", "", "Y"), 1)
	out := []api.Files{four, unnamed, plain, strong}
	for _, lone := range []string{"x", "0041; 0042; o", "0041; 0042; x", "0041; 0041; o", "x; 0041; o", "@x: y"} {
		f := four
		f.Brackets += text(lone)
		out = append(out, f)
	}
	for _, lone := range []string{"x", "0041; 0042", "0041; 0041", "0041; x", "@x: y"} {
		f := four
		f.Mirrors += text(lone)
		out = append(out, f)
	}
	return out
}

// P10.8: the lines of brackets and those of mirrors in any order.
func TestOrders(t *testing.T) {
	seen := 0
	for _, f := range lonelyWrong() {
		fault := api.Fault{}
		if wrong := faultOf(f); wrong != nil {
			fault = *wrong
			seen++
		}
		for _, name := range []string{"brackets", "mirrors"} {
			orders(linesOf(*fileOf(&f, name)), func(turned []string) {
				g := f
				*fileOf(&g, name) = text(turned...)
				isFaultAt(t, g, f, fault)
			})
		}
	}
	if seen != 14 {
		t.Errorf("%d faults", seen)
	}
}

// P10.8: in another order of the lines of brackets and mirrors, all numbers have the same points.
func TestOrdersPoints(t *testing.T) {
	f := lonelyWrong()[0]
	want := compiled(t, f)
	points := trial.Collect(want.Points())
	orders(linesOf(f.Brackets), func(brackets []string) {
		orders(linesOf(f.Mirrors), func(mirrors []string) {
			g := f
			g.Brackets, g.Mirrors = text(brackets...), text(mirrors...)
			b := compiled(t, g)
			isTold(t, b, classesOf(f), points)
			if wrote := b.Files(); wrote.Brackets != want.Files().Brackets || wrote.Mirrors != g.Mirrors {
				t.Fatalf("Files = %+v", wrote)
			}
		})
	})
}

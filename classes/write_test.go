package classes_test

import (
	"slices"
	"testing"

	"furrow/api"
	"furrow/classes"
	"furrow/trial"
)

// P7.4: the chapter's example, and tables of all sorts.
func TestWrite(t *testing.T) {
	for s, want := range map[string]string{
		example:                               "# @missing: 0000..10FFFF; Left_To_Right\n# @missing: 0590..05FF; Right_To_Left\n0030..0039; EN\n05D0; R\n",
		"":                                    "",
		"# n\n\n":                             "",
		"0041..0041 ; other-neutral # n":      "0041; ON\n",
		"0042; R\n0041; R":                    "0041..0042; R\n",
		"0042; R\n0041; L":                    "0041; L\n0042; R\n",
		"0000..10FFFF; pdi":                   "0000..10FFFF; PDI\n",
		"10000;B\n# @missing: FFFF..10000; b": "# @missing: FFFF..10000; Paragraph_Separator\n10000; B\n",
		"# @missing: 0041..0041;R\n# @missing: 0041;R": "# @missing: 0041; Right_To_Left\n# @missing: 0041; Right_To_Left\n",
	} {
		if got := tableOf(t, s).Write(); got != want {
			t.Errorf("%q: Write = %q", s, got)
		}
	}
}

// P7.4: each class's names.
func TestWriteNames(t *testing.T) {
	for i, short := range shortNames {
		s := "# @missing: 0041; " + longNames[i] + "\n0042; " + short + "\n"
		for _, from := range []string{s, "0042; " + longNames[i] + "\n# @missing: 0041; " + short} {
			if got := tableOf(t, from).Write(); got != s {
				t.Errorf("%q: Write = %q", from, got)
			}
		}
	}
}

// isThereAndBack asks P7.6 of table.
func isThereAndBack(t *testing.T, table *classes.Table) {
	t.Helper()
	wrote := table.Write()
	back := tableOf(t, wrote)
	isTold(t, "Named of "+wrote, back.Named(), trial.Collect(table.Named())...)
	isTold(t, "Whole of "+wrote, back.Whole(), trial.Collect(table.Whole())...)
	if !slices.Equal(back.Missing(), table.Missing()) {
		t.Fatalf("%q: Missing = %X, not %X", wrote, back.Missing(), table.Missing())
	}
	if again := back.Write(); again != wrote {
		t.Fatalf("%q is written again as %q", wrote, again)
	}
}

// P7.6
func TestThereAndBack(t *testing.T) {
	isThereAndBack(t, tableOf(t, example))
	for _, s := range nothings() {
		isThereAndBack(t, tableOf(t, s))
	}
	tried := 0
	for size := range 4 {
		for word := range trial.Words(someLines(), size) {
			table, err := classes.Read("f", text(word...))
			if err != nil {
				continue
			}
			isThereAndBack(t, table)
			tried++
		}
	}
	if tried < 1000 {
		t.Errorf("only %d texts were tried", tried)
	}
}

// P7.6: what has a class by a missing line, and what stands beside it by a naming one, stay apart.
func TestThereAndBackOfAll(t *testing.T) {
	var s string
	for i, short := range shortNames {
		lo := rune(0x1000 + 0x10*i)
		s += spanOf(lo, lo+0xF) + "; " + short + "\n# @missing: " + spanOf(lo-4, lo+0x13) + "; " + longNames[len(longNames)-1-i] + "\n"
	}
	isSaid(t, s)
	isThereAndBack(t, tableOf(t, s))
	if got := tableOf(t, s).Class(0x1000 + 0x10*api.Classes); got != api.L {
		t.Errorf("Class behind the last = %d", got)
	}
}

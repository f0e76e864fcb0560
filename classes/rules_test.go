package classes_test

import (
	"fmt"
	"iter"
	"math"
	"slices"
	"strings"
	"testing"

	"furrow/api"
	"furrow/classes"
	"furrow/trial"
)

// P0.1, P7.2 to P7.4: a nil table, and one that Read did not make, have nothing.
func TestNilTable(t *testing.T) {
	var none *classes.Table
	refused, _ := classes.Read("f", "x")
	for _, table := range []*classes.Table{none, refused, {}, new(classes.Table)} {
		for _, r := range []rune{math.MinInt32, -1, 0, 0x41, api.Replaced, api.MaxRune, api.MaxRune + 1, math.MaxInt32} {
			given, is := table.Given(r)
			if table.Class(r) != 0 || given != 0 || is || table.Line(r) != 0 {
				t.Errorf("%X has %d, %d, %v, %d", r, table.Class(r), given, is, table.Line(r))
			}
		}
		isTold(t, "Named", table.Named())
		isTold(t, "Whole", table.Whole())
		if got := table.Missing(); len(got) != 0 {
			t.Errorf("Missing = %X", got)
		}
		if got := table.Write(); got != "" {
			t.Errorf("Write = %q", got)
		}
	}
}

// P7.2 to P7.4: a table of nothing is not as a nil one.
func TestTableOfNothing(t *testing.T) {
	for _, s := range nothings() {
		table := tableOf(t, s)
		for _, r := range []rune{math.MinInt32, -1, 0, 0x41, 0xD800, api.Replaced, api.MaxRune, api.MaxRune + 1, math.MaxInt32} {
			given, is := table.Given(r)
			if table.Class(r) != api.L || given != 0 || is || table.Line(r) != 0 {
				t.Errorf("%q: %X has %d, %d, %v, %d", s, r, table.Class(r), given, is, table.Line(r))
			}
		}
		isTold(t, "Named", table.Named())
		isTold(t, "Whole", table.Whole(), ranged(0, api.MaxRune, api.L))
		if len(table.Missing()) != 0 || table.Write() != "" {
			t.Errorf("%q: Missing = %X, Write = %q", s, table.Missing(), table.Write())
		}
	}
}

// P0.1, P7.3: walks that are left early, gone over again, and one within the other.
func TestLeftEarly(t *testing.T) {
	for _, s := range []string{
		text(example, "0041; R", "0043; R"),
		text("0041; R", "0042; L", "0043; R", "0044; L", "0045; L"),
		text("# @missing: 0040..0050; AL", "0050; EN", "0045; R", "0047; AN", "0049; R", "0000; ON"),
	} {
		table := tableOf(t, s)
		for what, seq := range map[string]iter.Seq2[api.Range, api.Class]{"Named": table.Named(), "Whole": table.Whole()} {
			if wrong := trial.LeaveEarly(seq); wrong != "" {
				t.Errorf("%s of %q: %s", what, s, wrong)
			}
		}
	}
}

// P0.1, P7.3: two walks at once, of one table and of two.
func TestWalksAtOnce(t *testing.T) {
	table, other := tableOf(t, example), tableOf(t, "0035; R\n0041; AL")
	named, whole := trial.Collect(table.Named()), trial.Collect(table.Whole())
	otherWhole := trial.Collect(other.Whole())
	nextNamed, stopNamed := iter.Pull2(table.Named())
	nextWhole, stopWhole := iter.Pull2(table.Whole())
	nextOther, stopOther := iter.Pull2(other.Whole())
	defer stopNamed()
	defer stopWhole()
	defer stopOther()
	for i := range max(len(named), len(whole), len(otherWhole)) + 1 {
		for _, c := range []struct {
			next func() (api.Range, api.Class, bool)
			want []pair
		}{{nextNamed, named}, {nextWhole, whole}, {nextOther, otherWhole}} {
			r, class, more := c.next()
			if more != (i < len(c.want)) || more && c.want[i] != (pair{A: r, B: class}) {
				t.Fatalf("%X, %d, %v at %d of %X", r, class, more, i, c.want)
			}
		}
	}
}

// P0.1: a list that Missing answered and that is changed changes no later answer, its spare room neither.
func TestAnswersAreNew(t *testing.T) {
	table := tableOf(t, text("# @missing: 0041; R", "# @missing: 0042; R", "# @missing: 0043; AL", "0042; L"))
	want, wrote := table.Missing(), table.Write()
	changed := table.Missing()
	changed = changed[:cap(changed)]
	for i := range changed {
		changed[i] = api.Missing{Range: api.Range{Lo: 9, Hi: 8}, Class: 99}
	}
	_ = append(table.Missing(), api.Missing{Class: 99})
	got := table.Missing()
	if !slices.Equal(got, want) || table.Write() != wrote || table.Class(0x41) != api.R || table.Class(0x43) != api.AL {
		t.Errorf("Missing = %X, Write = %q", got, table.Write())
	}
	if len(got) != 3 || got[0] != (api.Missing{Range: api.Range{Lo: 0x41, Hi: 0x41}, Class: api.R}) {
		t.Errorf("Missing = %X", got)
	}
}

// P0.1: what a table tells hangs on its own text, whatever else is read, and is the same each time.
func TestTablesAreApart(t *testing.T) {
	table := tableOf(t, example)
	before := table.Write()
	for _, s := range []string{"0031; R", "# @missing: 0000..10FFFF; R", "0031; X", ""} {
		classes.Read("f", s)
		trial.Collect(table.Whole())
		if table.Write() != before || table.Class(0x31) != api.EN || table.Line(0x31) != 4 {
			t.Errorf("%q is written behind %q", table.Write(), s)
		}
	}
	isSaid(t, example)
}

// P0.1: calls end with any texts.
func TestAnyBytes(t *testing.T) {
	for s := range trial.Texts() {
		if line, why := faultOf(s); why != api.OK {
			isRefused(t, s, s, line, why)
		} else {
			isTold(t, s, tableOf(t, s).Whole(), ranged(0, api.MaxRune, api.L))
		}
	}
	for _, s := range trial.LongTexts() {
		for _, around := range [][2]string{{"0041;", ""}, {"", ";L"}, {"# @missing: 0041;", ""}, {"# @missing: ", "; L"}} {
			s := around[0] + s + around[1]
			if line, why := faultOf(s); why != api.OK {
				isRefused(t, "f", s, line, why)
			} else {
				tableOf(t, s)
			}
		}
	}
}

// P0.1: many lines, rising and falling.
func TestLongTexts(t *testing.T) {
	const many = 1 << 14
	var up, down, missing strings.Builder
	for i := range many {
		fmt.Fprintf(&up, "%04X; %s\n", 2*i, shortNames[i%len(shortNames)])
		fmt.Fprintf(&down, "%04X; %s\n", 2*(many-1-i), shortNames[(many-1-i)%len(shortNames)])
		fmt.Fprintf(&missing, "# @missing: %s; R\n", spanOf(rune(i), rune(2*many-i)))
	}
	rising, falling := tableOf(t, up.String()), tableOf(t, down.String())
	if got := trial.Collect(rising.Named()); len(got) != many || !slices.Equal(got, trial.Collect(falling.Named())) {
		t.Errorf("Named tells %d", len(got))
	}
	if got := trial.Collect(rising.Whole()); !slices.Equal(got, trial.Collect(falling.Whole())) || rising.Write() != falling.Write() {
		t.Errorf("Whole tells %d", len(got))
	}
	if rising.Line(2*many-2) != many || falling.Line(2*many-2) != 1 || rising.Line(1) != 0 {
		t.Errorf("Line = %d, %d", rising.Line(2*many-2), falling.Line(2*many-2))
	}
	isTold(t, "Whole", tableOf(t, missing.String()).Whole(), ranged(0, 2*many, api.R), ranged(2*many+1, api.MaxRune, api.L))
	if got := tableOf(t, missing.String()).Missing(); len(got) != many || got[many-1].Lo != many-1 {
		t.Errorf("Missing has %d", len(got))
	}
	isRefused(t, "f", up.String()+down.String(), many+1, api.ErrMeet)
}

// The numbers that layer 7 owns.
func TestErrors(t *testing.T) {
	if api.ErrColumns != 70 || api.ErrMissing != 71 {
		t.Error(int(api.ErrColumns), int(api.ErrMissing))
	}
}

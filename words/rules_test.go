package words_test

import (
	"slices"
	"strings"
	"testing"

	"furrow/api"
	"furrow/trial"
	"furrow/words"
)

// P0.1, 5.1: an iterator that is left early and gone over again.
func TestEachLeftEarly(t *testing.T) {
	for _, s := range []string{"a b c d", " a\u3000b\xff\u00a0\xc2 d\n ", "L R AL EN ES ET\t", "\u2003_ - \x80 _ -\u2003"} {
		if wrong := trial.LeaveEarly(words.Each(s)); wrong != "" {
			t.Errorf("Each of %q: %s", s, wrong)
		}
	}
	for _, s := range []string{"a", " a ", "\u3000\xff"} {
		seq := words.Each(s)
		for range 2 {
			count := 0
			for range seq {
				count++
				break
			}
			if count != 1 || len(trial.Collect(seq)) != 1 {
				t.Errorf("Each of %q: %d, %d", s, count, len(trial.Collect(seq)))
			}
		}
	}
}

// P0.1: what is handed in is not changed, spare room included, and not kept.
func TestWriteLeavesItsList(t *testing.T) {
	list := []api.Class{api.L, api.R, api.PDI, 0, 24, api.AL}
	before := slices.Clone(list)
	for size := range len(list) + 1 {
		words.Write(list[:size]...)
		if !slices.Equal(list, before) {
			t.Fatalf("changed to %v", list)
		}
	}
	wrote, _ := words.Write(list[:3]...)
	clear(list)
	if wrote != "L R PDI" {
		t.Errorf("kept: %q", wrote)
	}
}

// P0.1: a list that was answered and is changed changes no later answer.
func TestAnswersAreNew(t *testing.T) {
	const s = "L R AL EN PDI"
	want := []api.Class{api.L, api.R, api.AL, api.EN, api.PDI}
	one, _, _ := words.Classes(s)
	two, _, _ := words.Classes(s)
	clear(one[:cap(one)])
	three, _, _ := words.Classes(s)
	if !slices.Equal(two, want) || !slices.Equal(three, want) {
		t.Errorf("%v, %v", two, three)
	}
	if wrote, why := words.Write(two...); wrote != s || why != api.OK {
		t.Errorf("Write: %q, %v", wrote, why)
	}
}

// P0.1: calls end, and hang on their arguments alone; with many words and many wrong bytes, too.
func TestLongTexts(t *testing.T) {
	const many = 1 << 17
	got, place, why := words.Classes(strings.Repeat("Right_To_Left_Isolate\u3000", many))
	if len(got) != many || got[many-1] != api.RLI || place != 0 || why != api.OK {
		t.Errorf("Classes: %d, %d, %v", len(got), place, why)
	}
	if got, place, why := words.Classes(strings.Repeat("L ", many) + "X"); got != nil || place != 2*many || why != api.ErrNoClass {
		t.Errorf("Classes: %d, %d, %v", len(got), place, why)
	}
	if got, place, why := words.Classes(strings.Repeat("\u3000", many)); got != nil || place != 0 || why != api.OK {
		t.Errorf("Classes: %d, %d, %v", len(got), place, why)
	}
	if got := words.Loose(strings.Repeat("\xff_A", many)); got != strings.Repeat(fffd+"a", many) {
		t.Errorf("Loose: %d bytes", len(got))
	}
	if c, why := words.Class(strings.Repeat("_", many) + "L" + strings.Repeat(" ", many)); c != api.L || why != api.OK {
		t.Errorf("Class: %d, %v", c, why)
	}
	if c, why := words.Class(strings.Repeat("L", many)); c != 0 || why != api.ErrNoClass {
		t.Errorf("Class: %d, %v", c, why)
	}
	if wrote, why := words.Write(got...); len(wrote) != 4*many-1 || why != api.OK {
		t.Errorf("Write: %d bytes, %v", len(wrote), why)
	}
}

// The numbers that layer 5 owns.
func TestErrors(t *testing.T) {
	if api.ErrNoClass != 50 || api.ErrNoSide != 51 {
		t.Error(int(api.ErrNoClass), int(api.ErrNoSide))
	}
}

package trial_test

import (
	"slices"
	"testing"

	"furrow/api"
	"furrow/trial"
)

// Parts by the words of chapter 11, at its examples.
func TestParts(t *testing.T) {
	values := make([]int32, api.MaxRune+1)
	for r := 0x41; r <= 0x5A; r++ {
		values[r] = 1
	}
	p := trial.Parts(values)
	if len(p.Top) != 272 || len(p.Mid) != 2*64 || len(p.Low) != 2*64 || p.Top[0] != 0 || p.Top[1] != 1 || p.Mid[1] != 1 || p.Mid[64] != 0 || p.Low[64] != 0 || p.Low[65] != 1 {
		t.Error(p)
	}
	for r, v := range values {
		if trial.ValueAt(p, r) != v {
			t.Fatalf("%X has %d", r, trial.ValueAt(p, r))
		}
	}
}

// What is spoilt, copied, held against one another, and laid where there is room.
func TestPacked(t *testing.T) {
	one := func() api.Packed {
		list := make([]int32, api.MaxRune+1)
		return api.Packed{Class: trial.Parts(slices.Repeat([]api.Class{api.L}, len(list))), Bracket: trial.Parts(list), Twin: trial.Parts(list), Mirror: trial.Parts(list)}
	}
	for i, change := range []func(p *api.Packed){
		func(p *api.Packed) { p.Class.Top[271]++ }, func(p *api.Packed) { p.Class.Low[63]++ }, func(p *api.Packed) { p.Bracket.Mid[0]++ },
		func(p *api.Packed) { p.Twin.Low = p.Twin.Low[1:] }, func(p *api.Packed) { p.Mirror.Low[0]-- },
	} {
		p := one()
		copied := trial.CopyPacked(p)
		change(&p)
		if trial.SamePacked(p, one()) || !trial.SamePacked(copied, one()) {
			t.Error(i)
		}
	}
	p := trial.Roomy(one())
	all := trial.Whole(p)
	if !trial.SamePacked(p, one()) || len(all.Class.Low) <= 64 || len(all.Mirror.Top) <= 272 {
		t.Error("no room")
	}
	trial.Spoil(p)
	if p.Class.Low[0] != 99 || p.Mirror.Top[271] != 99 || all.Twin.Mid[64] != 99 {
		t.Error("not spoilt")
	}
}

package tables_test

import (
	"fmt"
	"math"
	"testing"

	"furrow/api"
	"furrow/tables"
	"furrow/trial"
)

// 14.1, 14.4: tables that go together, and such as say one thing alone.
func TestOver(t *testing.T) {
	plain := newWorld(api.ON)
	all := newWorld(api.L)
	for c := api.L; c <= api.PDI; c++ {
		all.class[rune(c)*0x1000] = c
	}
	mirrors := newWorld(api.B)
	mirrors.mirror[0], mirrors.mirror[last], mirrors.mirror[0xDFFF] = 0xFFFE, 1, last+1
	pairs := newWorld(api.ON)
	pairs.pair(0, last)
	pairs.pair(2, 1)
	for what, w := range map[string]world{"round": round(), "plain": plain, "all classes": all, "mirrors": mirrors, "pairs": pairs} {
		if why := isOver(t, what, w); why != api.OK {
			t.Errorf("%s: %v", what, why)
		}
		if !trial.SamePacked(w.packed(), w.written()) {
			t.Fatalf("%s: its parts are not those of the values", what)
		}
	}
}

// 14.1, 14.4: each number from 0 to MaxRune, one by one.
func TestOverOfEachNumber(t *testing.T) {
	w := round()
	got, r, why := tables.Over(w.written())
	if got == nil || r != 0 || why != api.OK {
		t.Fatal(r, why)
	}
	for r := range rune(count) {
		isAt(t, "round", got, w, r, r)
	}
}

// 14.1: no tables, and tables one of whose four, or more, is no trie's parts.
func TestOverOfNoParts(t *testing.T) {
	got, r, why := tables.Over(api.Packed{})
	isRefused(t, "none", got, r, why, 0, api.ErrPacked)
	for what, spoil := range map[string]func(p *api.Packed){
		"no Class":           func(p *api.Packed) { p.Class = api.Parts[api.Class]{} },
		"no Bracket":         func(p *api.Packed) { p.Bracket = api.Parts[int32]{} },
		"no Twin":            func(p *api.Packed) { p.Twin = api.Parts[int32]{Top: []uint16{}, Mid: []uint16{}, Low: []int32{}} },
		"no Mirror":          func(p *api.Packed) { p.Mirror = api.Parts[int32]{} },
		"no Class, no Twin":  func(p *api.Packed) { p.Class, p.Twin = api.Parts[api.Class]{}, api.Parts[int32]{} },
		"a Class too short":  func(p *api.Packed) { p.Class.Low = p.Class.Low[1:] },
		"a Top too long":     func(p *api.Packed) { p.Bracket.Top = append(p.Bracket.Top, 0) },
		"a Top too short":    func(p *api.Packed) { p.Mirror.Top = p.Mirror.Top[:271] },
		"a Mid of nothing":   func(p *api.Packed) { p.Twin.Mid = nil },
		"a block unmet":      func(p *api.Packed) { p.Twin.Low = append(p.Twin.Low, p.Twin.Low[:64]...) },
		"a block that is no": func(p *api.Packed) { p.Mirror.Mid[7] = 9999 },
		"another order":      func(p *api.Packed) { p.Bracket.Mid[0], p.Bracket.Mid[1] = 1, 0 },
		"a Class's Mid":      func(p *api.Packed) { p.Class.Mid[0] = uint16(len(p.Class.Low) / 64) },
	} {
		p := trial.CopyPacked(round().packed())
		spoil(&p)
		got, r, why := tables.Over(p)
		isRefused(t, what, got, r, why, 0, api.ErrPacked)
	}
}

// 14.1: parts that are no trie's are told as 0, whatever values there are, and whatever is amiss.
func TestOverOfNoPartsAndMore(t *testing.T) {
	w := round()
	w.class[0x41], w.mirror[0x42], w.bracket[0x43] = 0, 0x43, 5
	p := w.packed()
	p.Twin.Top = p.Twin.Top[1:]
	got, r, why := tables.Over(p)
	isRefused(t, "no Twin", got, r, why, 0, api.ErrPacked)
}

// places are the first number, some in the midst, and the last one.
func places() []rune { return []rune{0, 1, 0x3F, 0x41, 0x2000, 0xD801, 0xFFFD, last - 1, last} }

// 14.1: classes, at the first number, in the midst, at the last one.
func TestOverOfClasses(t *testing.T) {
	for _, r := range places() {
		for _, c := range []api.Class{0, 1, 2, 22, 23, 24, 25, 99, 127, 128, 254, 255} {
			w := newWorld(api.L)
			w.class[r] = c
			if why := isOver(t, fmt.Sprintf("%X %d", r, c), w); (why == api.ErrPacked) != (c < 1 || c > 23) {
				t.Errorf("%X %d: %v", r, c, why)
			}
		}
	}
	got, r, why := tables.Over(newWorld(0).packed())
	isRefused(t, "no class at all", got, r, why, 0, api.ErrPacked)
	got, r, why = tables.Over(newWorld(24).packed())
	isRefused(t, "none of the classes", got, r, why, 0, api.ErrPacked)
}

// 14.1: values outside, at the first number, in the midst, at the last one; and the last ones within.
func TestOverOfValues(t *testing.T) {
	values := []int32{math.MinInt32, math.MinInt32 + 1, -count - 2, -count - 1, -count, -count + 1, -1, 1, 2, count - 1, count, count + 1, count + 2, math.MaxInt32 - 1, math.MaxInt32}
	for what, of := range map[string]func(w world) map[rune]int32{
		"Bracket": func(w world) map[rune]int32 { return w.bracket },
		"Twin":    func(w world) map[rune]int32 { return w.twin },
		"Mirror":  func(w world) map[rune]int32 { return w.mirror },
	} {
		for _, r := range places() {
			for _, v := range values {
				w := newWorld(api.ON)
				of(w)[r] = v
				wrong := v > count || v < -count || v < 0 && what != "Bracket"
				if why := isOver(t, fmt.Sprintf("%s of %X %d", what, r, v), w); (why == api.ErrPacked) != wrong {
					t.Errorf("%s of %X %d: %v", what, r, v, why)
				}
			}
		}
	}
}

// 14.1: a whole stretch of wrong values, and several: the least number of which one is wrong is told, in whichever table.
func TestOverTellsTheLeast(t *testing.T) {
	for _, c := range []struct {
		class, bracket, twin, mirror, want rune
	}{
		{0x41, 0x42, 0x43, 0x44, 0x41}, {0x44, 0x41, 0x42, 0x43, 0x41}, {0x43, 0x44, 0x41, 0x42, 0x41}, {0x42, 0x43, 0x44, 0x41, 0x41},
		{last, last - 1, last - 2, last - 3, last - 3}, {0, last, last, last, 0}, {last, 0, 1, 1, 0}, {5, 5, 5, 5, 5},
	} {
		w := round()
		w.class[c.class], w.bracket[c.bracket], w.twin[c.twin], w.mirror[c.mirror] = 0, count+1, -1, count+1
		got, r, why := tables.Over(w.packed())
		isRefused(t, fmt.Sprintf("%X", c), got, r, why, c.want, api.ErrPacked)
		isOver(t, fmt.Sprintf("%X", c), w)
	}
	w := newWorld(api.L)
	for r := rune(0x1000); r < 0x3000; r++ {
		w.class[r] = 77
	}
	got, r, why := tables.Over(w.packed())
	isRefused(t, "a stretch", got, r, why, 0x1000, api.ErrPacked)
}

// 14.1: a wrong value is told, at whichever number, ahead of what is amiss.
func TestOverTellsWrongAheadOfAmiss(t *testing.T) {
	for what, change := range map[string]func(w world){
		"Class":   func(w world) { w.class[last-5] = 0 },
		"Bracket": func(w world) { w.bracket[last-5] = -count - 1 },
		"Twin":    func(w world) { w.twin[last-5] = -1 },
		"Mirror":  func(w world) { w.mirror[last-5] = count + 1 },
	} {
		w := round()
		w.bracket[0x28], w.twin['a'], w.mirror['b'] = 0, 1, 'b'+1
		got, r, why := tables.Over(w.packed())
		isRefused(t, what, got, r, why, 0x29, api.ErrAmiss)
		change(w)
		got, r, why = tables.Over(w.packed())
		isRefused(t, what, got, r, why, last-5, api.ErrPacked)
	}
}

package tables_test

import (
	"math"
	"slices"
	"testing"

	"furrow/api"
	"furrow/tables"
	"furrow/trial"
)

// 14.4, P0.1: nil tables, and such as no call made, which are as nil ones.
func TestNilTables(t *testing.T) {
	refused, _, _ := tables.Over(api.Packed{})
	for _, none := range []*tables.Tables{nil, {}, new(tables.Tables), refused} {
		for _, r := range slices.Concat(round().numbers(), others()) {
			if c := none.Class(r); c != 0 {
				t.Errorf("Class(%X) is %d", r, c)
			}
			if o, s := none.Bracket(r); o != 0 || s != api.None {
				t.Errorf("Bracket(%X) is %X, %d", r, o, s)
			}
			if as := none.Twin(r); as != r {
				t.Errorf("Twin(%X) is %X", r, as)
			}
			if m, is := none.Mirror(r); m != 0 || is {
				t.Errorf("Mirror(%X) is %X, %v", r, m, is)
			}
		}
		if !trial.SamePacked(none.Packed(), api.Packed{}) {
			t.Error("parts of none")
		}
		got, r, why := tables.Pack(none) // its classes are none
		isRefused(t, "packed", got, r, why, 0, api.ErrPacked)
		got, r, why = tables.Over(none.Packed())
		isRefused(t, "over", got, r, why, 0, api.ErrPacked)
	}
}

// 14.4: numbers below 0 and above MaxRune count as FFFD, be it a bracket with a twin and a mirror, or nothing.
func TestOutside(t *testing.T) {
	w := newWorld(api.L)
	w.class['a'] = api.R
	isOver(t, "FFFD is nothing", w)
	w.pair(0xFFFD, 'b')
	w.pair('c', 'd')
	twins(w, 0xFFFD, 'c')
	w.mirror[0xFFFD] = 'e' + 1
	got, r, why := tables.Over(w.packed())
	if isMade(t, "FFFD is all", got, r, why, w) != api.OK {
		t.Fatal(r, why)
	}
	for _, r := range others() {
		other, side := got.Bracket(r)
		m, is := got.Mirror(r)
		if got.Class(r) != api.ON || other != 'b' || side != api.Opens || got.Twin(r) != 'c' || m != 'e' || !is {
			t.Errorf("%X: %d, %X, %d, %X, %X, %v", r, got.Class(r), other, side, got.Twin(r), m, is)
		}
	}
}

// P0.1: what is handed to Over stays as it was, the room behind it too, and is not kept; what Packed answers is new memory each time, each list of it.
func TestOverSharesNothing(t *testing.T) {
	w := round()
	p := trial.Roomy(w.packed())
	before := trial.CopyPacked(trial.Whole(p))
	got := well(t, "round")(tables.Over(p))
	if !trial.SamePacked(trial.Whole(p), before) {
		t.Fatal("what was handed in is changed")
	}
	trial.Spoil(p)
	isWorld(t, "kept", got, w)
	if _, _, why := tables.Over(p); why != api.ErrPacked {
		t.Error(why)
	}
	kept, one := got.Packed(), got.Packed()
	trial.Spoil(one)
	isWorld(t, "spoilt", got, w)
	if !trial.SamePacked(kept, w.packed()) {
		t.Error("two Packed share memory")
	}
}

// P0.1: no two lists of one answer of Packed share memory.
func TestPackedSharesNothingWithin(t *testing.T) {
	w := newWorld(api.L) // its four tables have the same stages
	got := well(t, "plain")(tables.Over(w.packed()))
	for i := range 8 {
		p := got.Packed()
		lists := [][]uint16{p.Class.Top, p.Class.Mid, p.Bracket.Top, p.Bracket.Mid, p.Twin.Top, p.Twin.Mid, p.Mirror.Top, p.Mirror.Mid}
		trial.SpoilList(lists[i])
		for j, list := range lists {
			if j != i && slices.Contains(list, 99) {
				t.Errorf("the lists %d and %d share memory", i, j)
			}
		}
	}
	p := got.Packed()
	trial.SpoilList(p.Bracket.Low)
	if slices.Contains(p.Twin.Low, 99) || slices.Contains(p.Mirror.Low, 99) {
		t.Error("the values share memory")
	}
}

// P0.1: what is handed to Hand stays as it was, the room behind it too, and is not kept, be it right or wrong.
func TestHandKeepsNothing(t *testing.T) {
	for what, change := range map[string]func(h *rows){
		"right": func(h *rows) {}, "amiss": func(h *rows) { h.brackets[0].Other = 5 }, "wrong": func(h *rows) { h.mirrors[0].As = -1 }, "no class": func(h *rows) { h.rest = 0 },
	} {
		h := some()
		change(&h)
		h.classes = append(h.classes, make([]api.Entry, 9)...)[:len(h.classes)]
		h.brackets = append(h.brackets, make([]api.Bracket, 9)...)[:len(h.brackets)]
		h.twins = append(h.twins, make([]api.Twin, 9)...)[:len(h.twins)]
		h.mirrors = append(h.mirrors, make([]api.Twin, 9)...)[:len(h.mirrors)]
		all := rows{h.rest, h.classes[:cap(h.classes)], h.brackets[:cap(h.brackets)], h.twins[:cap(h.twins)], h.mirrors[:cap(h.mirrors)]}
		before := rows{all.rest, slices.Clone(all.classes), slices.Clone(all.brackets), slices.Clone(all.twins), slices.Clone(all.mirrors)}
		w := h.world()
		got, _, _ := h.hand()
		if !slices.Equal(all.classes, before.classes) || !slices.Equal(all.brackets, before.brackets) || !slices.Equal(all.twins, before.twins) || !slices.Equal(all.mirrors, before.mirrors) {
			t.Errorf("%s: what was handed in is changed", what)
		}
		clear(all.classes)
		clear(all.brackets)
		clear(all.twins)
		clear(all.mirrors)
		if got != nil {
			isWorld(t, what, got, w)
		}
	}
}

// P0.1: the text stays as it was, and what Classes answers is new memory each time.
func TestClassesShareNothing(t *testing.T) {
	got := well(t, "round")(tables.Over(round().packed()))
	text := []rune{'a', -1, 0x5D0, 0x28}
	before := slices.Clone(text)
	kept, one := tables.Classes(got, text[:3]...), tables.Classes(got, text[:3]...)
	clear(one[:cap(one)])
	if !slices.Equal(text, before) || !slices.Equal(kept, []api.Class{api.L, api.ON, api.R}) || !slices.Equal(tables.Classes(got, text[:3]...), kept) {
		t.Error(text, kept)
	}
}

// P0.1: the props that are packed are not kept: what they tell later is nobody's matter.
func TestPackKeepsNothing(t *testing.T) {
	w := round()
	p := w.copied()
	got := well(t, "round")(tables.Pack(p.props()))
	p.class['a'], p.mirror['a'], p.bracket[0x28] = api.R, 5, 0
	isWorld(t, "kept", got, w)
}

// P0.1: what tables answer hangs on nothing that is called besides, and is the same each time.
func TestTablesAreApart(t *testing.T) {
	w := round()
	got := well(t, "round")(tables.Over(w.packed()))
	for range 2 {
		some().hand()
		tables.Hand(0, nil, nil, nil, nil)
		tables.Over(api.Packed{})
		tables.Over(newWorld(api.R).packed())
		tables.Pack(nil)
		tables.Pack(newWorld(api.R).props())
		tables.Alike(got, newWorld(api.R).props())
		isWorld(t, "apart", got, w)
	}
}

// P0.1: calls end with props that may not be, and that tell something else each time.
func TestUnsteadyProps(t *testing.T) {
	next := trial.Numbers()
	unsteady := teller{
		class:   func(rune) api.Class { return api.Class(next() >> 8) },
		bracket: func(rune) (rune, api.Side) { return rune(next()), api.Side(next() >> 8) },
		twin:    func(rune) rune { return rune(next()) },
		mirror:  func(rune) (rune, bool) { return rune(next()), next()>>31 == 0 },
	}
	for range 3 {
		if got, _, why := tables.Pack(unsteady); got != nil || why != api.ErrPacked {
			t.Error(why)
		}
		if _, is := tables.Alike(unsteady, unsteady); !is {
			t.Error("alike")
		}
		if l := tables.Classes(unsteady, 0, -1, math.MaxInt32); len(l) != 3 {
			t.Error(l)
		}
	}
	nearly := teller{ // nothing that it tells can't be said
		class:   func(rune) api.Class { return api.ON },
		bracket: func(r rune) (rune, api.Side) { return rune(next()>>8) % count, api.Side(next() >> 8 % 3) },
		twin:    func(rune) rune { return rune(next()>>8) % count },
		mirror:  func(rune) (rune, bool) { return rune(next()>>8) % count, true },
	}
	if got, _, why := tables.Pack(nearly); got != nil || why != api.ErrAmiss {
		t.Error(why)
	}
}

// P0.1: many at a time answer what each alone does.
func TestAtOnce(t *testing.T) {
	w := round()
	shared := well(t, "round")(tables.Over(w.packed()))
	done := make(chan bool)
	for range 4 {
		go func() {
			good := true
			for range 5 {
				got, _, why := tables.Over(shared.Packed())
				byHand, _, whyToo := some().hand()
				good = good && why == api.OK && whyToo == api.OK && trial.SamePacked(got.Packed(), w.packed()) && trial.SamePacked(byHand.Packed(), some().world().packed())
				for _, r := range w.numbers() {
					o, s := shared.Bracket(r)
					wantO, want := w.bracketOf(r)
					good = good && shared.Class(r) == w.classOf(r) && o == wantO && s == want && shared.Twin(r) == w.twinOf(r)
				}
			}
			done <- good
		}()
	}
	for range 4 {
		if !<-done {
			t.Error("not the same")
		}
	}
}

// The numbers that layer 14 owns.
func TestErrors(t *testing.T) {
	if api.ErrPacked != 140 || api.ErrAmiss != 141 {
		t.Error(int(api.ErrPacked), int(api.ErrAmiss))
	}
}

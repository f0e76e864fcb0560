package tables_test

import (
	"slices"
	"testing"

	"furrow/api"
	"furrow/base"
	"furrow/image"
	"furrow/tables"
	"furrow/trial"
)

// compiled is the base of files that are a database.
func compiled(t *testing.T, f api.Files) *base.Base {
	t.Helper()
	b, err := base.Compile(f)
	if b == nil || err != nil {
		t.Fatal(b, err)
	}
	return b
}

// well is tables that were made as they must.
func well(t *testing.T, what string) func(got *tables.Tables, r rune, why api.Errno) *tables.Tables {
	return func(got *tables.Tables, r rune, why api.Errno) *tables.Tables {
		t.Helper()
		if got == nil || r != 0 || why != api.OK {
			t.Fatalf("%s: %X, %v", what, r, why)
		}
		return got
	}
}

// 14.6: tables that say the same have the same parts, whoever made them: by hand, over parts, of props.
func TestOneImage(t *testing.T) {
	h := some()
	w := h.world()
	byHand := well(t, "by hand")(h.hand())
	slices.Reverse(h.classes)
	slices.Reverse(h.brackets)
	slices.Reverse(h.twins)
	slices.Reverse(h.mirrors)
	turned := well(t, "turned")(h.hand())
	h.rest = api.ON
	h.classes = append(h.classes, api.Entry{From: 2, To: 0x27, Class: api.AL}, api.Entry{From: 0x2A, To: 0x2328, Class: api.AL}, api.Entry{From: 0x232B, To: 0x3007, Class: api.AL}, api.Entry{From: 0x300A, To: last - 2, Class: api.AL})
	otherRest := well(t, "another rest")(h.hand())
	over := well(t, "over")(tables.Over(w.written()))
	packed := well(t, "packed")(tables.Pack(w.chatty()))
	again := well(t, "packed again")(tables.Pack(over))
	overAgain := well(t, "over again")(tables.Over(packed.Packed()))
	list := []*tables.Tables{byHand, turned, otherRest, over, packed, again, overAgain}
	for i, a := range list {
		if !trial.SamePacked(a.Packed(), w.written()) {
			t.Errorf("%d has other parts", i)
		}
		isAlike(t, "one image", a, list[(i+1)%len(list)], 0, false)
	}
}

// 14.6, 14.7, P0.3, P0.4: of bases of all sorts: what is packed of them, and what their images hold, is the same, and says of each number what they tell; and is saved as the image was.
func TestOfBases(t *testing.T) {
	for what, f := range trial.Databases() {
		t.Run(what, func(t *testing.T) {
			t.Parallel()
			b := compiled(t, f)
			s, why := image.Make(b)
			if why != api.OK {
				t.Fatal(why)
			}
			p, why := image.Load(s)
			if why != api.OK {
				t.Fatal(why)
			}
			loaded, packed := well(t, "loaded")(tables.Over(p)), well(t, "packed")(tables.Pack(b))
			isAlike(t, "loaded", loaded, b, 0, false)
			isAlike(t, "packed", packed, b, 0, false)
			for _, got := range []*tables.Tables{loaded, packed} {
				if !trial.SamePacked(got.Packed(), trial.Asked(b)) {
					t.Error("other parts")
				}
				if again, why := image.Save(got.Packed()); again != s || why != api.OK {
					t.Error("another image", why)
				}
				tellsAsBase(t, got, b)
			}
		})
	}
}

// tellsAsBase holds what tables tell of each number, and of numbers outside, against the base's points.
func tellsAsBase(t *testing.T, got *tables.Tables, b *base.Base) {
	t.Helper()
	ask := others()
	for r := range rune(count) {
		ask = append(ask, r)
	}
	for _, r := range ask {
		want := b.Point(r)
		other, side := got.Bracket(r)
		to, turns := got.Mirror(r)
		if !turns {
			to, want.Mirror = 0, 0
		}
		if p := (api.Point{Class: got.Class(r), Other: other, Side: side, Twin: got.Twin(r), Mirror: to, Turns: turns}); p != want {
			t.Fatalf("%X: %+v, not %+v", r, p, want)
		}
	}
	text := ask[:0x3000]
	if !slices.Equal(tables.Classes(got, text...), tables.Classes(b, text...)) {
		t.Error("other classes")
	}
}

// P0.3: by what is compiled, loaded and looked up each number has what a plain look through the files' lines says.
func TestOfNaive(t *testing.T) {
	for what, f := range trial.Databases() {
		if what == "many" || what == "all classes" {
			continue // a look through many lines takes long
		}
		s, _ := image.Make(compiled(t, f))
		p, _ := image.Load(s)
		got := well(t, what)(tables.Over(p))
		for _, r := range slices.Concat(others(), round().numbers(), []rune{0x3C, 0x3E, 5, last - 5}) {
			want, err := base.Naive(f, r)
			other, side := got.Bracket(r)
			to, turns := got.Mirror(r)
			if err != nil || got.Class(r) != want.Class || other != want.Other || side != want.Side || got.Twin(r) != want.Twin || turns != want.Turns || turns && to != want.Mirror {
				t.Errorf("%s: %X has %+v, %v", what, r, want, err)
			}
		}
	}
}

// P0.4: an image whose tables may be, each by itself, and do not go together, is loaded, but no tables are made of it.
func TestOfImageThatIsAmiss(t *testing.T) {
	w := round()
	delete(w.bracket, 0x29)
	s, why := image.Save(w.packed())
	if why != api.OK {
		t.Fatal(why)
	}
	p, why := image.Load(s)
	if why != api.OK {
		t.Fatal(why)
	}
	got, r, why := tables.Over(p)
	isRefused(t, "amiss", got, r, why, 0x28, api.ErrAmiss)
}

// 14.7: of props that are Alike, classes and tables are the same, whoever tells.
func TestWhoeverTells(t *testing.T) {
	b := compiled(t, trial.Databases()["twins"])
	over := well(t, "over")(tables.Over(trial.Asked(b)))
	own := teller{class: b.Class, bracket: b.Bracket, twin: b.Twin, mirror: over.Mirror}
	text := []rune{0x28, 0x2329, 'a', 0, last, -1, count}
	want := tables.Classes(b, text...)
	for what, p := range map[string]api.Props{"the base": b, "tables": over, "others": own} {
		isAlike(t, what, b, p, 0, false)
		if !slices.Equal(tables.Classes(p, text...), want) {
			t.Error(what)
		}
		if got := well(t, what)(tables.Pack(p)); !trial.SamePacked(got.Packed(), trial.Asked(b)) {
			t.Errorf("%s: other parts", what)
		}
		if r, is := tables.Alike(p, round().props()); r != 0 || !is {
			t.Error(what, r, is)
		}
	}
}

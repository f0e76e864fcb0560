package tables_test

import (
	"fmt"
	"math"
	"slices"
	"testing"

	"furrow/api"
	"furrow/tables"
)

// 14.5: of no props, of no runes, of some, and of runes outside.
func TestClasses(t *testing.T) {
	w := round()
	got, _, _ := tables.Over(w.packed())
	if l := tables.Classes(nil, 'a', 'b'); len(l) != 0 {
		t.Error(l)
	}
	if l := tables.Classes(nil); len(l) != 0 {
		t.Error(l)
	}
	for what, p := range map[string]api.Props{"tables": got, "others": w.props()} {
		for _, none := range [][]rune{nil, {}} {
			if l := tables.Classes(p, none...); len(l) != 0 {
				t.Error(what, l)
			}
		}
		text := []rune{'a', 0x5D0, 0x28, 0, last, 0xD800, 0x40, 'a', 0xFFFD, last - 2}
		want := []api.Class{api.L, api.R, api.ON, api.ON, api.ON, api.ON, api.PDI, api.L, api.ON, api.LRE}
		if l := tables.Classes(p, text...); !slices.Equal(l, want) {
			t.Errorf("%s: %d, not %d", what, l, want)
		}
		for _, r := range others() { // FFFD is a bracket here, and its class not the one of the rest
			if l := tables.Classes(p, 'a', r, 0x5D0); !slices.Equal(l, []api.Class{api.L, api.ON, api.R}) {
				t.Errorf("%s: the classes of %X are %d", what, r, l)
			}
		}
	}
}

// 14.5: the class that props tell is told as it is, also if it is none.
func TestClassesThatAreNone(t *testing.T) {
	p := newWorld(api.L).props()
	p.class = func(r rune) api.Class { return api.Class(r) }
	if l := tables.Classes(p, 0, 1, 23, 24, 255); !slices.Equal(l, []api.Class{0, 1, 23, 24, 255}) {
		t.Error(l)
	}
}

// 14.5: a text of many runes.
func TestClassesOfMany(t *testing.T) {
	got, _, _ := tables.Hand(api.L, []api.Entry{{From: 0x1000, To: last, Class: api.R}}, nil, nil, nil)
	text := make([]rune, api.MaxText+1)
	for i := range text {
		text[i] = rune(i)
	}
	l := tables.Classes(got, text...)
	if len(l) != len(text) || l[0xFFF] != api.L || l[0x1000] != api.R || l[api.MaxText] != api.R {
		t.Error(len(l))
	}
}

// isAlike is whether Alike answers that of a and b, and of b and a.
func isAlike(t *testing.T, what string, a, b api.Props, wantR rune, want bool) {
	t.Helper()
	if r, is := tables.Alike(a, b); r != wantR || is != want {
		t.Errorf("%s: %X, %v, not %X, %v", what, r, is, wantR, want)
	}
	if r, is := tables.Alike(b, a); r != wantR || is != want {
		t.Errorf("%s, the other way: %X, %v, not %X, %v", what, r, is, wantR, want)
	}
}

// 14.5: one nil, two, and none.
func TestAlikeOfNil(t *testing.T) {
	got, _, _ := tables.Over(round().packed())
	isAlike(t, "two", nil, nil, 0, false)
	isAlike(t, "one, and tables", nil, got, 0, true)
	isAlike(t, "one, and others", nil, round().props(), 0, true)
	isAlike(t, "none", got, got, 0, false)
}

// 14.5: props that differ in one of the four at the first number alone, in the midst, or at the last.
func TestAlikeInAllButOne(t *testing.T) {
	t.Parallel()
	for _, at := range []rune{0, 0x41, last} {
		w := newWorld(api.ON)
		for what, change := range map[string]func(w world){
			"the class":              func(w world) { w.class[at] = api.L },
			"one opens":              func(w world) { w.bracket[at] = 8 },
			"one closes":             func(w world) { w.bracket[at] = -8 },
			"one opens 0":            func(w world) { w.bracket[at] = 1 },
			"the twin":               func(w world) { w.twin[at] = 8 },
			"one has a mirror":       func(w world) { w.mirror[at] = 8 },
			"one has the mirror 0":   func(w world) { w.mirror[at] = 1 },
			"one is its own mirror":  func(w world) { w.mirror[at] = at + 1 },
			"one's other one is its": func(w world) { w.bracket[at] = at + 1 },
		} {
			other := w.copied()
			change(other)
			isAlike(t, fmt.Sprintf("%s at %X", what, at), w.props(), other.props(), at, true)
		}
		both := w.copied()
		both.bracket[at], both.mirror[at], both.twin[at] = 8, 8, 8
		for what, change := range map[string]func(w world){
			"the side":      func(w world) { w.bracket[at] = -8 },
			"the other one": func(w world) { w.bracket[at] = 9 },
			"the mirror":    func(w world) { w.mirror[at] = 9 },
			"the twin":      func(w world) { w.twin[at] = 9 },
		} {
			other := both.copied()
			change(other)
			isAlike(t, fmt.Sprintf("%s at %X", what, at), both.props(), other.props(), at, true)
		}
		isAlike(t, "both", both.props(), both.copied().props(), 0, false)
	}
}

// 14.5: of several numbers the least one is told.
func TestAlikeTellsTheLeast(t *testing.T) {
	w, other := round(), round()
	other.class[last], other.mirror[0x3000], other.twin[0x2FFF], other.bracket[0x4000] = api.L, 5, 6, 7
	isAlike(t, "the twin", w.props(), other.props(), 0x2FFF, true)
	other.class[0x29] = api.L
	isAlike(t, "the class", w.props(), other.props(), 0x29, true)
	other.mirror[0] = 0
	isAlike(t, "the mirror", w.props(), other.props(), 0, true)
}

// 14.5: what is told beside None, and beside false, does not count; what is told of numbers outside is not asked.
func TestAlikeBesideNone(t *testing.T) {
	w := round()
	isAlike(t, "chatty", w.props(), w.chatty(), 0, false)
	p := w.chatty()
	p.class = func(r rune) api.Class {
		if r < 0 || r > last {
			return 0
		}
		return w.classOf(r)
	}
	isAlike(t, "chatty, and outside", w.chatty(), p, 0, false)
	for _, r := range []rune{-1, count, math.MinInt32, 7, 0} {
		isAlike(t, fmt.Sprintf("%X beside None", r), withBracket(7, r, api.None), withMirror(9, r, false), 0, false)
		isAlike(t, fmt.Sprintf("%X beside true", r), withMirror(9, r, true), withMirror(9, r, false), 9, true)
		isAlike(t, fmt.Sprintf("%X beside Opens", r), withBracket(7, r, api.Opens), withBracket(7, r, api.None), 7, true)
		isAlike(t, fmt.Sprintf("%X beside a side that is none", r), withBracket(7, r, 3), withBracket(7, r, api.None), 7, true)
	}
}

package tables_test

import (
	"maps"
	"math"
	"slices"
	"testing"

	"furrow/api"
	"furrow/tables"
	"furrow/trial"
	"furrow/trie"
)

const (
	last  = api.MaxRune
	count = api.MaxRune + 1 // of numbers, and the greatest value that tells of one
)

// The words of the chapter, written down number by number.

// world is packed tables as they are written down: the class of all numbers but those that have another one, and the values that are not 0.
type world struct {
	rest                  api.Class
	class                 map[rune]api.Class
	bracket, twin, mirror map[rune]int32
}

func newWorld(rest api.Class) world {
	return world{rest: rest, class: map[rune]api.Class{}, bracket: map[rune]int32{}, twin: map[rune]int32{}, mirror: map[rune]int32{}}
}

func (w world) copied() world {
	return world{rest: w.rest, class: maps.Clone(w.class), bracket: maps.Clone(w.bracket), twin: maps.Clone(w.twin), mirror: maps.Clone(w.mirror)}
}

// pair makes two numbers a pair of brackets.
func (w world) pair(opens, closes rune) {
	w.class[opens], w.class[closes] = api.ON, api.ON
	w.bracket[opens], w.bracket[closes] = closes+1, -(opens + 1)
}

// round is tables that go together: pairs at both ends and within, twins, of two pairs the same ones, and mirrors.
func round() world {
	w := newWorld(api.L)
	w.pair(0x28, 0x29)
	w.pair(0x2329, 0x232A)
	w.pair(0x3008, 0x3009)
	w.pair(0x27E8, 0x27E9)
	w.pair(last, 0)
	w.pair(1, last-1)
	w.pair(0xD800, 0xFFFD)
	w.twin[0x2329], w.twin[0x232A] = 0x3009, 0x300A
	w.twin[0x27E8], w.twin[0x27E9] = 0x3009, 0x300A
	w.twin[1], w.twin[last-1] = last+1, 1
	w.mirror[0x28], w.mirror[0x29], w.mirror['x'], w.mirror[0], w.mirror[last] = 0x2A, 0x29, 1, last+1, 'y'
	w.class[0x5D0], w.class[0x40], w.class[last-2] = api.R, api.PDI, api.LRE
	return w
}

func (w world) classOf(r rune) api.Class {
	if c, is := w.class[r]; is {
		return c
	}
	return w.rest
}

func (w world) bracketOf(r rune) (rune, api.Side) {
	switch v := w.bracket[r]; {
	case v > 0:
		return v - 1, api.Opens
	case v < 0:
		return -v - 1, api.Closes
	}
	return 0, api.None
}

func (w world) twinOf(r rune) rune {
	if w.twin[r] == 0 {
		return r
	}
	return w.twin[r] - 1
}

func (w world) mirrorOf(r rune) (rune, bool) {
	if w.mirror[r] == 0 {
		return 0, false
	}
	return w.mirror[r] - 1, true
}

// numbers is all that w says something of, and some others, rising.
func (w world) numbers() []rune {
	list := []rune{0, 1, 0x3F, 0x40, 0xFFF, 0x1000, 0xD7FF, 0xD800, 0xDFFF, 0xFFFC, 0xFFFD, 0xFFFE, last - 1, last}
	for r := range w.class {
		list = append(list, r)
	}
	for _, values := range []map[rune]int32{w.bracket, w.twin, w.mirror} {
		for r := range values {
			list = append(list, r)
		}
	}
	for _, r := range list {
		list = append(list, max(r-1, 0), min(r+1, last))
	}
	slices.Sort(list)
	return slices.Compact(list)
}

// isWrong is whether one of the values of r may not be.
func (w world) isWrong(r rune) bool {
	c := w.classOf(r)
	return c < 1 || c > 23 || w.bracket[r] < -count || w.bracket[r] > count || w.twin[r] < 0 || w.twin[r] > count || w.mirror[r] < 0 || w.mirror[r] > count
}

// isAmiss is whether the values of r, all of which may be, do not go together with others.
func (w world) isAmiss(r rune) bool {
	other, side := w.bracketOf(r)
	if side != api.None {
		back, backSide := w.bracketOf(other)
		if w.bracket[other] == 0 || back != r || backSide == side || w.classOf(r) != api.ON {
			return true
		}
	}
	if w.twin[r] != 0 {
		twin := w.twinOf(r)
		twinOther, twinSide := w.bracketOf(twin)
		if side == api.None || twin == r || twinSide != side || w.twin[twin] != 0 || twinOther != w.twinOf(other) {
			return true
		}
	}
	return w.mirror[r] == r+1
}

// answer is the number and the error that there must be.
func (w world) answer() (rune, api.Errno) {
	for _, r := range w.numbers() {
		if w.isWrong(r) {
			return r, api.ErrPacked
		}
	}
	for _, r := range w.numbers() {
		if w.isAmiss(r) {
			return r, api.ErrAmiss
		}
	}
	return 0, api.OK
}

// packed is w's tables, by the layer that makes tries.
func (w world) packed() api.Packed {
	return api.Packed{Class: built(w.rest, w.class), Bracket: built(0, w.bracket), Twin: built(0, w.twin), Mirror: built(0, w.mirror)}
}

func built[V comparable](rest V, values map[rune]V) api.Parts[V] {
	var spans []api.Span[V]
	for r, v := range values {
		spans = append(spans, api.Span[V]{From: r, To: r, Val: v})
	}
	t, _, why := trie.Build(rest, spans...)
	if why != api.OK {
		panic(why)
	}
	return t.Parts()
}

// written is w's tables, each number written out.
func (w world) written() api.Packed {
	return api.Packed{Class: trial.Parts(listed(w.rest, w.class)), Bracket: trial.Parts(listed(0, w.bracket)), Twin: trial.Parts(listed(0, w.twin)), Mirror: trial.Parts(listed(0, w.mirror))}
}

func listed[V any](rest V, values map[rune]V) []V {
	list := make([]V, count)
	for r := range list {
		list[r] = rest
	}
	for r, v := range values {
		list[r] = v
	}
	return list
}

// others are numbers that have no answer of their own.
func others() []rune {
	return []rune{-1, -2, -0xFFFD, math.MinInt32, math.MinInt32 + 1, count, count + 1, 0x110040, math.MaxInt32}
}

// isAt holds what tables tell of the number ask against what w says of r.
func isAt(t *testing.T, what string, got api.Props, w world, ask, r rune) {
	t.Helper()
	other, side := w.bracketOf(r)
	to, turns := w.mirrorOf(r)
	if c := got.Class(ask); c != w.classOf(r) {
		t.Fatalf("%s: Class(%X) is %d, not %d", what, ask, c, w.classOf(r))
	}
	if o, s := got.Bracket(ask); o != other || s != side {
		t.Fatalf("%s: Bracket(%X) is %X, %d, not %X, %d", what, ask, o, s, other, side)
	}
	if as := got.Twin(ask); as != w.twinOf(r) {
		t.Fatalf("%s: Twin(%X) is %X, not %X", what, ask, as, w.twinOf(r))
	}
	if m, is := got.Mirror(ask); m != to || is != turns {
		t.Fatalf("%s: Mirror(%X) is %X, %v, not %X, %v", what, ask, m, is, to, turns)
	}
}

// isWorld holds all that tables tell against w.
func isWorld(t *testing.T, what string, got *tables.Tables, w world) {
	t.Helper()
	for _, r := range w.numbers() {
		isAt(t, what, got, w, r, r)
	}
	for _, r := range others() {
		isAt(t, what, got, w, r, 0xFFFD)
	}
	if !trial.SamePacked(got.Packed(), w.packed()) {
		t.Fatalf("%s: Packed answers other parts", what)
	}
}

// isMade holds what Over, Pack or Hand answered against the words; it tells which error there is.
func isMade(t *testing.T, what string, got *tables.Tables, r rune, why api.Errno, w world) api.Errno {
	t.Helper()
	wantR, want := w.answer()
	if r != wantR || why != want || (got == nil) != (want != api.OK) {
		t.Fatalf("%s: %v, %X, %v, not %X, %v", what, got != nil, r, why, wantR, want)
	}
	if want == api.OK {
		isWorld(t, what, got, w)
	}
	return want
}

// isOver holds Over of w's tables against the words.
func isOver(t *testing.T, what string, w world) api.Errno {
	t.Helper()
	got, r, why := tables.Over(w.packed())
	return isMade(t, what, got, r, why, w)
}

// isRefused is whether no tables were made, for that reason.
func isRefused(t *testing.T, what string, got *tables.Tables, r rune, why api.Errno, wantR rune, want api.Errno) {
	t.Helper()
	if got != nil || r != wantR || why != want {
		t.Errorf("%s: %v, %X, %v, not %X, %v", what, got != nil, r, why, wantR, want)
	}
}

// teller is props of the test's own.
type teller struct {
	class   func(r rune) api.Class
	bracket func(r rune) (rune, api.Side)
	twin    func(r rune) rune
	mirror  func(r rune) (rune, bool)
}

func (p teller) Class(r rune) api.Class          { return p.class(r) }
func (p teller) Bracket(r rune) (rune, api.Side) { return p.bracket(r) }
func (p teller) Twin(r rune) rune                { return p.twin(r) }
func (p teller) Mirror(r rune) (rune, bool)      { return p.mirror(r) }

// props is what tells what w says.
func (w world) props() teller {
	return teller{class: w.classOf, bracket: w.bracketOf, twin: w.twinOf, mirror: w.mirrorOf}
}

// chatty is what tells what w says, and much beside None and false, and the mirror of a number that has none.
func (w world) chatty() teller {
	p := w.props()
	p.bracket = func(r rune) (rune, api.Side) {
		if other, side := w.bracketOf(r); side != api.None {
			return other, side
		}
		return []rune{r, -1, count, math.MinInt32, math.MaxInt32, 0x28}[r%6], api.None
	}
	p.mirror = func(r rune) (rune, bool) {
		if to, is := w.mirrorOf(r); is {
			return to, true
		}
		return []rune{r, -1, count, math.MinInt32, math.MaxInt32, 0x28, 0}[r%7], false
	}
	return p
}

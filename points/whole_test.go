package points_test

import (
	"slices"
	"testing"

	"furrow/api"
	"furrow/points"
	"furrow/trial"
)

// tables are all of that many code points from base on, that have none or one of the values.
func tables(base rune, size int, values ...string) []table[string] {
	cells := []cell[string]{{}}
	for _, v := range values {
		cells = append(cells, cell[string]{v, true})
	}
	var all []table[string]
	for word := range trial.Words(cells, size) {
		t := newTable[string](base, size)
		t.cells = word
		all = append(all, t)
	}
	return all
}

// rising is the map of the table, put number by number.
func rising(t table[string]) *points.Map[string] {
	m := points.New[string]()
	for i, c := range t.cells {
		if x := t.base + rune(i); c.has {
			m.Put(rangeOf(x, x), c.val)
		}
	}
	return m
}

// falling is the map of the table, cut and laid from behind out of a whole one.
func falling(t table[string]) *points.Map[string] {
	m := points.New[string]()
	m.Lay(rangeOf(0, api.MaxRune), "other")
	for i := len(t.cells) - 1; i >= 0; i-- {
		x := t.base + rune(i)
		if c := t.cells[i]; c.has {
			m.Lay(rangeOf(x, x), c.val)
		} else {
			m.Cut(rangeOf(x, x))
		}
	}
	if t.base > 0 {
		m.Cut(rangeOf(0, t.base-1))
	}
	if behind := t.base + rune(len(t.cells)); behind <= api.MaxRune {
		m.Cut(rangeOf(behind, api.MaxRune))
	}
	return m
}

// P4.4, P4.6: Same of all pairs of small maps, that came to be in two ways.
func TestSame(t *testing.T) {
	for _, base := range bases(4) {
		all := tables(base, 4, "a", "b")
		for i, x := range all {
			one := rising(x)
			hold(t, one, x)
			for j, y := range all {
				other := falling(y)
				if points.Same(one, other) != (i == j) || points.Same(other, one) != (i == j) {
					t.Fatalf("Same of %v and %v is not %t", x.cells, y.cells, i == j)
				}
			}
			hold(t, falling(x), x)
			if !points.Same(one, one) {
				t.Fatalf("%v is not the same as itself", x.cells)
			}
		}
	}
}

// P4.4: a nil map is as one without values.
func TestSameOfNil(t *testing.T) {
	var none *points.Map[string]
	empty, some := points.New[string](), laid(span{0, 0, ""})
	for _, c := range []struct {
		a, b *points.Map[string]
		want bool
	}{
		{none, none, true}, {none, empty, true}, {empty, none, true}, {empty, empty, true},
		{none, some, false}, {some, none, false}, {empty, some, false}, {some, empty, false},
	} {
		if points.Same(c.a, c.b) != c.want {
			t.Errorf("Same of %v and %v is not %t", c.a, c.b, c.want)
		}
	}
}

// P4.4: Over of all pairs of small maps, number by number.
func TestOver(t *testing.T) {
	for _, base := range bases(3) {
		all := tables(base, 3, "a", "b")
		for _, low := range all {
			for _, high := range all {
				want := low.copy()
				for i, c := range high.cells {
					if c.has {
						want.cells[i] = c
					}
				}
				lowMap, highMap := falling(low), rising(high)
				hold(t, points.Over(lowMap, highMap), want)
				hold(t, lowMap, low)
				hold(t, highMap, high)
			}
		}
	}
}

// P4.4: Over of nil ones is a map.
func TestOverOfNil(t *testing.T) {
	var none *points.Map[string]
	some := laid(span{0, 3, "a"}, span{0x10FFFF, 0x10FFFF, "b"})
	for _, c := range []struct{ low, high, want *points.Map[string] }{
		{none, none, none}, {none, some, some}, {some, none, some}, {points.New[string](), none, none}, {none, points.New[string](), none},
	} {
		got := points.Over(c.low, c.high)
		if got == nil || !points.Same(got, c.want) {
			t.Errorf("Over of %v and %v is %v", c.low, c.high, got)
		}
		if why := got.Lay(rangeOf(1, 2), "x"); why != api.OK {
			t.Errorf("what Over of %v and %v answers refuses: %d", c.low, c.high, why)
		}
	}
	wantSpans(t, "what was handed in", some, span{0, 3, "a"}, span{0x10FFFF, 0x10FFFF, "b"})
}

// P4.4: Over of wide ranges that lie in one another by turns.
func TestOverOfWideRanges(t *testing.T) {
	low := laid(span{0, 0x10FFFF, "a"})
	high := laid(span{0, 9, "b"}, span{20, 29, "a"}, span{0x10FFF0, 0x10FFFF, "c"})
	wantSpans(t, "over all", points.Over(low, high), span{0, 9, "b"}, span{10, 0x10FFEF, "a"}, span{0x10FFF0, 0x10FFFF, "c"})
	wantSpans(t, "under all", points.Over(high, low), span{0, 0x10FFFF, "a"})
}

// P4.8: Over(Over(a, b), c) is Over(a, Over(b, c)), and Over of a map over itself is it.
func TestOverThrice(t *testing.T) {
	all := tables(0x41, 3, "a", "b")
	for _, x := range all {
		a := rising(x)
		if !points.Same(points.Over(a, a), a) {
			t.Fatalf("%v over itself is %v", x.cells, spans(points.Over(a, a)))
		}
		for _, y := range all {
			b := falling(y)
			ab := points.Over(a, b)
			for _, z := range all {
				c := rising(z)
				one, other := points.Over(ab, c), points.Over(a, points.Over(b, c))
				if !points.Same(one, other) || !slices.Equal(spans(one), spans(other)) {
					t.Fatalf("of %v, %v, %v: %v and %v", x.cells, y.cells, z.cells, spans(one), spans(other))
				}
			}
		}
	}
}

// turns are the functions from a, b and c to two values.
func turns() []func(string) string {
	var all []func(string) string
	for word := range trial.Words([]string{"x", "y"}, 3) {
		all = append(all, func(v string) string { return word[v[0]-'a'] })
	}
	return all
}

// P4.4: Turn of all small maps by all functions: what comes to be, how often the function is called, and in which order.
func TestTurn(t *testing.T) {
	for _, base := range bases(4) {
		for _, x := range tables(base, 4, "a", "b", "c") {
			m := falling(x)
			for _, one := range turns() {
				var called, values []string
				for _, s := range x.stretches() {
					values = append(values, s.Val)
				}
				want := x.copy()
				for i, c := range want.cells {
					if c.has {
						want.cells[i].val = one(c.val)
					}
				}
				got := points.Turn(m, func(v string) string {
					called = append(called, v)
					return one(v)
				})
				hold(t, got, want)
				if !slices.Equal(called, values) {
					t.Fatalf("of %v: called with %v, not %v", x.cells, called, values)
				}
			}
			hold(t, m, x)
		}
	}
}

// P4.4: Turn to values of another type; by a nil function, to the zero value; of a nil map, to a map.
func TestTurnOfNil(t *testing.T) {
	m := laid(span{0, 3, "a"}, span{4, 5, "bb"}, span{9, 9, "c"})
	if got := spans(points.Turn(m, func(v string) int { return len(v) })); !slices.Equal(got, []api.Span[int]{{From: 0, To: 3, Val: 1}, {From: 4, To: 5, Val: 2}, {From: 9, To: 9, Val: 1}}) {
		t.Errorf("by len: %v", got)
	}
	zero := points.Turn[string, int](m, nil)
	if got := spans(zero); !slices.Equal(got, []api.Span[int]{{From: 0, To: 5}, {From: 9, To: 9}}) {
		t.Errorf("by nil: %v", got)
	}
	if v, has := zero.At(4); v != 0 || !has {
		t.Errorf("by nil: %d, %t", v, has)
	}
	var none *points.Map[string]
	never := func(string) int {
		t.Error("called for nothing")
		return 1
	}
	for _, got := range []*points.Map[int]{points.Turn(none, never), points.Turn[string, int](none, nil), points.Turn(points.New[string](), never)} {
		if got == nil || got.Size() != 0 {
			t.Fatalf("of no map: %v", got)
		}
		if why := got.Put(rangeOf(1, 2), 3); why != api.OK {
			t.Errorf("what Turn of no map answers refuses: %d", why)
		}
	}
}

// P4.8: Turn with a function and then another one is Turn with both.
func TestTurnTwice(t *testing.T) {
	another := func(v string) int { return int(v[0]-'x') * 7 }
	for _, x := range tables(0, 4, "a", "b", "c") {
		m := rising(x)
		for _, one := range turns() {
			two := points.Turn(points.Turn(m, one), another)
			both := points.Turn(m, func(v string) int { return another(one(v)) })
			if !points.Same(two, both) || !slices.Equal(spans(two), spans(both)) {
				t.Fatalf("of %v: %v and %v", x.cells, spans(two), spans(both))
			}
		}
	}
}

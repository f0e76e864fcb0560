package points_test

import (
	"slices"
	"testing"

	"furrow/api"
	"furrow/points"
	"furrow/trial"
)

// cell is what a plain table has for one code point.
type cell[V any] struct {
	val V
	has bool
}

// table has a cell for each code point from base on; those that it has none for have no value.
type table[V any] struct {
	base  rune
	cells []cell[V]
	like  func(a, b V) bool // whether a is b
	whole bool              // are values like themselves, so that there are stretches?
}

func newTable[V comparable](base rune, size int) table[V] {
	return table[V]{base: base, cells: make([]cell[V], size), like: func(a, b V) bool { return a == b }, whole: true}
}

func (t table[V]) copy() table[V] {
	t.cells = slices.Clone(t.cells)
	return t
}

func (t table[V]) at(x rune) cell[V] {
	if x < t.base || int(x-t.base) >= len(t.cells) {
		return cell[V]{}
	}
	return t.cells[x-t.base]
}

// lay gives the code points of r the cell, and is how many had a value.
func (t table[V]) lay(r api.Range, c cell[V]) int {
	had := 0
	for x := r.Lo; x <= r.Hi; x++ {
		if t.cells[x-t.base].has {
			had++
		}
		t.cells[x-t.base] = c
	}
	return had
}

func (t table[V]) size() int {
	n := 0
	for _, c := range t.cells {
		if c.has {
			n++
		}
	}
	return n
}

// stretches go up number by number.
func (t table[V]) stretches() []api.Span[V] {
	var all []api.Span[V]
	open := false
	for i, c := range t.cells {
		x := t.base + rune(i)
		if c.has && open && t.like(all[len(all)-1].Val, c.val) {
			all[len(all)-1].To = x
		} else if c.has {
			all = append(all, api.Span[V]{From: x, To: x, Val: c.val})
		}
		open = c.has
	}
	return all
}

func (t table[V]) gaps() []api.Range {
	var all []api.Range
	lo := rune(0)
	for i, c := range t.cells {
		x := t.base + rune(i)
		if !c.has {
			continue
		}
		if lo < x {
			all = append(all, rangeOf(lo, x-1))
		}
		lo = x + 1
	}
	if lo <= api.MaxRune {
		all = append(all, rangeOf(lo, api.MaxRune))
	}
	return all
}

// ranges are all that lie in the table.
func (t table[V]) ranges() []api.Range {
	var all []api.Range
	for lo := range rune(len(t.cells)) {
		for hi := lo; hi < rune(len(t.cells)); hi++ {
			all = append(all, rangeOf(t.base+lo, t.base+hi))
		}
	}
	return all
}

// spans is what All tells.
func spans[V comparable](m *points.Map[V]) []api.Span[V] {
	var all []api.Span[V]
	for r, v := range m.All() {
		all = append(all, api.Span[V]{From: r.Lo, To: r.Hi, Val: v})
	}
	return all
}

// hold holds the map against the table.
func hold[V comparable](t *testing.T, m *points.Map[V], want table[V]) {
	t.Helper()
	holdEach(t, m, want)
	if got := m.Size(); got != want.size() {
		t.Fatalf("Size is %d, not %d", got, want.size())
	}
	if got := slices.Collect(m.Gaps()); !slices.Equal(got, want.gaps()) {
		t.Fatalf("Gaps tells %x, not %x", got, want.gaps())
	}
	if want.whole {
		holdStretches(t, m, want)
	}
}

// holdEach asks for each code point of the table and some around it, and for each that All tells.
func holdEach[V comparable](t *testing.T, m *points.Map[V], want table[V]) {
	t.Helper()
	told := newTable[V](want.base, len(want.cells))
	last := rune(-1)
	for r, v := range m.All() {
		if !points.May(r) || r.Lo <= last || r.Lo < want.base || int(r.Hi-want.base) >= len(want.cells) {
			t.Fatalf("All tells %x behind %x", r, last)
		}
		told.lay(r, cell[V]{v, true})
		last = r.Hi
	}
	for x := want.base - 2; int(x-want.base) < len(want.cells)+2; x++ {
		c := want.at(x)
		got, has := m.At(x)
		if has != c.has || has && !want.like(got, c.val) {
			t.Fatalf("At(%x) is %v, %t, not %v", x, got, has, c)
		}
		if c := told.at(x); c.has != has || has && !want.like(got, c.val) {
			t.Fatalf("All tells %v of %x, At %v, %t", c, x, got, has)
		}
		if r, got, has := m.Meets(rangeOf(x, x)); has != c.has || has && (!want.like(got, c.val) || x < r.Lo || x > r.Hi) {
			t.Fatalf("Meets of %x is %x, %v, %t, not %v", x, r, got, has, c)
		}
	}
}

func holdStretches[V comparable](t *testing.T, m *points.Map[V], want table[V]) {
	t.Helper()
	all := want.stretches()
	if got := spans(m); !slices.Equal(got, all) {
		t.Fatalf("All tells %v, not %v", got, all)
	}
	if m.Len() != len(all) {
		t.Fatalf("Len is %d, not %d", m.Len(), len(all))
	}
	for _, r := range want.ranges() {
		first, met := api.Span[V]{}, false
		for _, s := range all {
			if s.From <= r.Hi && s.To >= r.Lo {
				first, met = s, true
				break
			}
		}
		if got, v, is := m.Meets(r); got != rangeOf(first.From, first.To) || v != first.Val || is != met {
			t.Fatalf("Meets(%x) is %x, %v, %t, not %v", r, got, v, is, first)
		}
	}
}

// kind is which call is made.
type kind int

const (
	put kind = iota
	lay
	cut
)

// step makes a call of the map and of the table, and holds their answers against one another.
func step[V comparable](t *testing.T, m *points.Map[V], want table[V], k kind, r api.Range, v V) {
	t.Helper()
	switch k {
	case put:
		why := api.OK
		if want.copy().lay(r, cell[V]{}) > 0 {
			why = api.ErrMeet
		} else {
			want.lay(r, cell[V]{v, true})
		}
		if got := m.Put(r, v); got != why {
			t.Fatalf("Put(%x, %v) is %d, not %d", r, v, got, why)
		}
	case lay:
		want.lay(r, cell[V]{v, true})
		if got := m.Lay(r, v); got != api.OK {
			t.Fatalf("Lay(%x, %v) is %d", r, v, got)
		}
	case cut:
		had := want.lay(r, cell[V]{})
		if got, why := m.Cut(r); got != had || why != api.OK {
			t.Fatalf("Cut(%x) is %d, %d, not %d", r, got, why, had)
		}
	}
}

// allOrders makes each order of up to depth calls, on a copy of the map each time.
func allOrders[V comparable](t *testing.T, m *points.Map[V], want table[V], values []V, depth int) {
	hold(t, m, want)
	if depth == 0 {
		return
	}
	for _, r := range want.ranges() {
		for k := range cut + 1 {
			for i, v := range values {
				if k == cut && i > 0 { // no value is asked for
					break
				}
				changed, table := m.Copy(), want.copy()
				step(t, changed, table, k, r, v)
				allOrders(t, changed, table, values, depth-1)
			}
		}
	}
	hold(t, m, want) // what was done to the copies left it as it was
}

// bases are where a table of that size lies: at both ends of the code points, and between.
func bases(size int) []rune {
	return []rune{0, 0xFFFE, api.MaxRune + 1 - rune(size)}
}

// P4.2, P4.3, P4.5, P4.6: all short orders of calls over a few numbers and values, held against a plain table number by number.
func TestAllShortOrders(t *testing.T) {
	for _, base := range bases(5) {
		allOrders(t, points.New[string](), newTable[string](base, 5), []string{"a", "b"}, 2)
	}
	allOrders(t, points.New[string](), newTable[string](0, 4), []string{"a", "b"}, 3)
	allOrders(t, points.New[int](), newTable[int](api.MaxRune-2, 3), []int{0, 1}, 3)
	allOrders(t, points.New[bool](), newTable[bool](5, 2), []bool{false, true}, 4)
}

// P4.2, P4.3, P4.5, P4.6: long orders of calls.
func TestLongOrders(t *testing.T) {
	const size = 24
	for _, base := range bases(size) {
		m, want := points.New[rune](), newTable[rune](base, size)
		next := trial.Numbers()
		pick := func(n int) int { return int(next()>>8) % n }
		for range 4000 {
			r := want.ranges()[pick(size*(size+1)/2)]
			if pick(4) > 0 {
				r.Hi = min(r.Hi, r.Lo+rune(pick(4)))
			}
			step(t, m, want, kind(pick(3)), r, rune(pick(3)))
			hold(t, m, want)
		}
	}
}

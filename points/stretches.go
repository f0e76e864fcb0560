package points

import (
	"iter"
	"slices"

	"furrow/api"
)

// All tells the stretches, rising, each with its value.
func (m *Map[V]) All() iter.Seq2[api.Range, V] {
	return func(yield func(api.Range, V) bool) {
		pieces := slices.Clone(m.held()) // m may be changed while the walk goes on
		for r, v := range stretches(pieces) {
			if !yield(r, v) {
				return
			}
		}
	}
}

// Gaps tells the ranges of code points without a value, rising, each as great as can be.
func (m *Map[V]) Gaps() iter.Seq[api.Range] {
	return func(yield func(api.Range) bool) {
		if m.absent() {
			return
		}
		gap := api.Range{Lo: 0, Hi: api.MaxRune}
		for r := range m.All() {
			gap.Hi = r.Lo - 1
			if May(gap) && !yield(gap) {
				return
			}
			gap.Lo = r.Hi + 1
		}
		gap.Hi = api.MaxRune
		if May(gap) {
			yield(gap)
		}
	}
}

// Meets is the first stretch that has a code point of r, and its value; false, if there is none.
func (m *Map[V]) Meets(r api.Range) (api.Range, V, bool) {
	if May(r) {
		for s, v := range stretches(around(m.held(), r)) {
			return s, v, true
		}
	}
	var none V
	return api.Range{}, none, false
}

// Len is how many stretches there are.
func (m *Map[V]) Len() int {
	n := 0
	for range stretches(m.held()) {
		n++
	}
	return n
}

// stretches tells the stretches of the pieces.
func stretches[V comparable](pieces []api.Span[V]) iter.Seq2[api.Range, V] {
	return func(yield func(api.Range, V) bool) {
		from := 0
		for i, p := range pieces {
			if i+1 < len(pieces) && join(p, pieces[i+1]) {
				continue
			}
			if !yield(api.Range{Lo: pieces[from].From, Hi: p.To}, pieces[from].Val) {
				return
			}
			from = i + 1
		}
	}
}

// around is those of the pieces that meet r, and those beside them that are of the same stretches.
func around[V comparable](pieces []api.Span[V], r api.Range) []api.Span[V] {
	from, upTo := reach(pieces, r)
	if from == upTo {
		return nil
	}
	for from > 0 && join(pieces[from-1], pieces[from]) {
		from--
	}
	for upTo < len(pieces) && join(pieces[upTo-1], pieces[upTo]) {
		upTo++
	}
	return pieces[from:upTo]
}

// join is whether the pieces a and b, of which b is the next one, are of one stretch.
func join[V comparable](a, b api.Span[V]) bool {
	return a.To+1 == b.From && alike(a.Val, b.Val)
}

// alike is whether == says that v and w are. Of some values that an interface may hold it panics instead: then it does not say so.
func alike[V comparable](v, w V) bool {
	defer func() { recover() }()
	return v == w
}

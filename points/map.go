package points

import (
	"slices"

	"furrow/api"
)

// Map has values for code points, by stretches. A zero one, which no call of this package made, is as a nil one.
type Map[V comparable] struct {
	made   bool
	pieces []api.Span[V]
}

// New is a map without values.
func New[V comparable]() *Map[V] {
	return holding[V](nil)
}

// holding is the map with these pieces, which it keeps.
func holding[V comparable](pieces []api.Span[V]) *Map[V] {
	return &Map[V]{made: true, pieces: pieces}
}

// held is m's pieces; none of a nil map.
func (m *Map[V]) held() []api.Span[V] {
	if m == nil {
		return nil
	}
	return m.pieces
}

// absent is whether m is nil, or as a nil one.
func (m *Map[V]) absent() bool {
	return m == nil || !m.made
}

// refuses is why m can't be changed at r.
func (m *Map[V]) refuses(r api.Range) api.Errno {
	switch {
	case m.absent():
		return api.ErrNil
	case !May(r):
		return api.ErrRange
	}
	return api.OK
}

// Put gives the code points of r the value v, if none of them has one.
func (m *Map[V]) Put(r api.Range, v V) api.Errno {
	if why := m.refuses(r); why != api.OK {
		return why
	}
	if len(meeting(m.pieces, r)) > 0 {
		return api.ErrMeet
	}
	return m.Lay(r, v)
}

// Lay gives the code points of r the value v, whatever they had.
func (m *Map[V]) Lay(r api.Range, v V) api.Errno {
	if why := m.refuses(r); why != api.OK {
		return why
	}
	m.pieces = replaced(m.pieces, r, api.Span[V]{From: r.Lo, To: r.Hi, Val: v})
	return api.OK
}

// Cut takes their values from the code points of r, and is how many had one.
func (m *Map[V]) Cut(r api.Range) (int, api.Errno) {
	if why := m.refuses(r); why != api.OK {
		return 0, why
	}
	had := size(within(m.pieces, r))
	m.pieces = replaced(m.pieces, r)
	return had, api.OK
}

// At is the value of x; false, if it has none.
func (m *Map[V]) At(x rune) (V, bool) {
	for _, p := range meeting(m.held(), api.Range{Lo: x, Hi: x}) {
		return p.Val, true
	}
	var none V
	return none, false
}

// Size is how many code points have a value.
func (m *Map[V]) Size() int {
	return size(m.held())
}

// Copy is a map of its own with the same values; nil of a nil one.
func (m *Map[V]) Copy() *Map[V] {
	if m.absent() {
		return nil
	}
	return holding(slices.Clone(m.pieces))
}

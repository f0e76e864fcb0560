package points

import (
	"cmp"
	"slices"

	"furrow/api"
)

// Same is whether a and b have alike values for the same code points; a nil one is as one without values.
func Same[V comparable](a, b *Map[V]) bool {
	return slices.EqualFunc(told(a), told(b), func(x, y api.Span[V]) bool {
		return x.From == y.From && x.To == y.To && alike(x.Val, y.Val)
	})
}

// told is the stretches of m in a list.
func told[V comparable](m *Map[V]) []api.Span[V] {
	var list []api.Span[V]
	for r, v := range m.All() {
		list = append(list, api.Span[V]{From: r.Lo, To: r.Hi, Val: v})
	}
	return list
}

// Over is a map that has high's value where it has one, else low's.
func Over[V comparable](low, high *Map[V]) *Map[V] {
	over := holding(slices.Clone(high.held()))
	for gap := range over.Gaps() {
		over.pieces = append(over.pieces, within(low.held(), gap)...)
	}
	slices.SortFunc(over.pieces, func(a, b api.Span[V]) int { return cmp.Compare(a.From, b.From) })
	return over
}

// Turn is a map that has one(v) where m has v; the zero value there, if one is nil.
func Turn[V, W comparable](m *Map[V], one func(V) W) *Map[W] {
	turned := New[W]()
	for r, v := range m.All() {
		var w W
		if one != nil {
			w = one(v)
		}
		turned.Lay(r, w)
	}
	return turned
}

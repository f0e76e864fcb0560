package trie

import (
	"cmp"
	"slices"

	"furrow/api"
	"furrow/points"
)

// Build is the trie that gives each number the Val of the span that has it, rest to those that none has; or none, the place of the first span that is wrong, and why.
func Build[V comparable](rest V, spans ...api.Span[V]) (*Trie[V], int, api.Errno) {
	if place, why := refused(spans); why != api.OK {
		return nil, place, why
	}
	m := newMaker[V]()
	next := rune(0)
	for _, s := range rising(spans) {
		m.lay(rest, int(s.From-next))
		m.lay(s.Val, int(s.To-s.From)+1)
		next = s.To + 1
	}
	m.lay(rest, int(api.MaxRune+1-next))
	return m.trie(), 0, api.OK
}

// refused is the place of the span for which Build refuses them, and why.
func refused[V any](spans []api.Span[V]) (int, api.Errno) {
	for place, s := range spans {
		if !points.May(api.Range{Lo: s.From, Hi: s.To}) {
			return place, api.ErrExtent
		}
	}
	taken := make(numbers, places)
	for place, s := range spans {
		if !taken.take(s.From, s.To) {
			return place, api.ErrMeets
		}
	}
	return 0, api.OK
}

// rising is the spans, no two of which meet, by rising numbers, in a list of its own.
func rising[V any](spans []api.Span[V]) []api.Span[V] {
	list := slices.Clone(spans)
	slices.SortFunc(list, func(a, b api.Span[V]) int { return cmp.Compare(a.From, b.From) })
	return list
}

// numbers is a set of them: a bit for each, those of one low block together. Spans may come in any order, and be as many as there are numbers: a sorted list of them would have to be moved too often.
type numbers []uint64

// take puts the numbers from from to to into the set; false, if one of them is in it.
func (n numbers) take(from, to rune) bool {
	for from <= to {
		end := min(to, from|(size-1))
		bits := ^uint64(0) >> (size - 1 - uint(end-from)) << uint(from%size)
		if n[from/size]&bits != 0 {
			return false
		}
		n[from/size] |= bits
		from = end + 1
	}
	return true
}

// Fill is the trie of at, which is asked once for each number from 0 to MaxRune, by rising numbers; nil, if at is.
func Fill[V comparable](at func(r rune) V) *Trie[V] {
	if at == nil {
		return nil
	}
	m := newMaker[V]()
	for r := range rune(api.MaxRune + 1) {
		m.add(at(r))
	}
	return m.trie()
}

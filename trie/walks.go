package trie

import (
	"iter"

	"furrow/api"
)

// Spans tells the stretches of numbers that have the same value, as long as can be, by rising numbers.
func (t *Trie[V]) Spans() iter.Seq[api.Span[V]] {
	return func(yield func(api.Span[V]) bool) {
		if t.absent() {
			return
		}
		for from := rune(0); from <= api.MaxRune; {
			to := t.last(from)
			if !yield(api.Span[V]{From: from, To: to, Val: t.At(from)}) {
				return
			}
			from = to + 1
		}
	}
}

// last is the last number of the stretch that begins at from.
func (t *Trie[V]) last(from rune) rune {
	v := t.At(from)
	whole := -1 // a low block that has nothing but v: where it stands again, it need not be looked at
	for r := from + 1; r <= api.MaxRune; {
		begins := r%size == 0
		if begins && r-from >= size {
			whole = t.low(r - 1)
		}
		switch {
		case begins && t.low(r) == whole:
			r += size
		case t.At(r) != v:
			return r - 1
		default:
			r++
		}
	}
	return api.MaxRune
}

// Where tells the numbers that have the value v, by rising numbers.
func (t *Trie[V]) Where(v V) iter.Seq[rune] {
	return func(yield func(rune) bool) {
		for s := range t.Spans() {
			for r := s.From; s.Val == v && r <= s.To; r++ {
				if !yield(r) {
					return
				}
			}
		}
	}
}

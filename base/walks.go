package base

import (
	"iter"

	"furrow/api"
)

// Classes tells the greatest ranges of code points of one class, rising, each with it.
func (b *Base) Classes() iter.Seq2[api.Range, api.Class] {
	return func(yield func(api.Range, api.Class) bool) {
		if !b.made() {
			return
		}
		for r, class := range b.table.Whole() {
			if !yield(r, class) {
				return
			}
		}
	}
}

// Points tells the code points that are brackets or have a mirror, rising, each with its point.
func (b *Base) Points() iter.Seq2[rune, api.Point] {
	return func(yield func(rune, api.Point) bool) {
		if !b.made() {
			return
		}
		for r := range b.marked() {
			if !yield(r, b.Point(r)) {
				return
			}
		}
	}
}

// marked tells the code points that are brackets or have a mirror, rising, each once: ahead of each bracket those with a mirror that lie between it and the bracket ahead.
func (b *Base) marked() iter.Seq[rune] {
	return func(yield func(rune) bool) {
		above := rune(-1)
		for bracket := range b.book.Rows() {
			for r := range b.turning(above, bracket.At) {
				if !yield(r) {
					return
				}
			}
			if !yield(bracket.At) {
				return
			}
			above = bracket.At
		}
		for r := range b.turning(above, api.MaxRune+1) {
			if !yield(r) {
				return
			}
		}
	}
}

// turning tells the code points with a mirror that are above the one and below the other, rising.
func (b *Base) turning(above, below rune) iter.Seq[rune] {
	return func(yield func(rune) bool) {
		from, _ := b.turnAt(above + 1)
		for _, m := range b.turns[from:] {
			if m.From >= below || !yield(m.From) {
				return
			}
		}
	}
}

package trie

import (
	"iter"
	"slices"

	"furrow/api"
)

// From is the trie of the function whose parts p are: of what p leads to for each number, if the parts of that are p.
func From[V comparable](p api.Parts[V]) (*Trie[V], api.Errno) {
	if !leads(p) {
		return nil, api.ErrParts
	}
	t := turned(p, func(v V) V { return v })
	if !slices.Equal(t.parts.Top, p.Top) || !slices.Equal(t.parts.Mid, p.Mid) || len(t.parts.Low) != len(p.Low) {
		return nil, api.ErrParts
	}
	return t, api.OK
}

// leads is whether p has a value for each number, whatever else is wrong with it.
func leads[V any](p api.Parts[V]) bool {
	return len(p.Top) == tops && below(p.Top, len(p.Mid)/size) && below(p.Mid, len(p.Low)/size)
}

// below is whether all of the list are below the bound.
func below(list []uint16, bound int) bool {
	for _, no := range list {
		if int(no) >= bound {
			return false
		}
	}
	return true
}

// Map is the trie that gives each number what of answers of t's value of it; nil, if t or of is.
func Map[V, W comparable](t *Trie[V], of func(v V) W) *Trie[W] {
	if t.absent() || of == nil {
		return nil
	}
	return turned(t.parts, of)
}

// turned is the trie that gives each number what of answers of the value that p leads to. Places that share a block in p may not share one here: of may answer what is not == to itself.
func turned[V, W comparable](p api.Parts[V], of func(v V) W) *Trie[W] {
	m := newMaker[W]()
	block := make([]W, size)
	for no, times := range repeats(p) {
		for i := range block {
			block[i] = of(p.Low[no*size+i])
		}
		m.put(block, times)
	}
	return m.trie()
}

// repeats tells, by rising places, the numbers of the low blocks, each with how many places in a row have it.
func repeats[V any](p api.Parts[V]) iter.Seq2[int, int] {
	return func(yield func(int, int) bool) {
		from := 0
		for place := 1; place <= places; place++ {
			no := lowAt(p, from)
			if place < places && lowAt(p, place) == no {
				continue
			}
			if !yield(no, place-from) {
				return
			}
			from = place
		}
	}
}

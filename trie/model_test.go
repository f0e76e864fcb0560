package trie_test

import (
	"slices"
	"testing"

	"furrow/api"
	"furrow/trie"
)

const count = api.MaxRune + 1

// table is a function, written out: a value for each number, and when two are the same.
type table[V comparable] struct {
	values []V
	same   func(a, b V) bool
}

// tabled is the function that gives each number what at answers.
func tabled[V comparable](at func(r rune) V) table[V] {
	values := make([]V, count)
	for r := range values {
		values[r] = at(rune(r))
	}
	return table[V]{values, func(a, b V) bool { return a == b }}
}

// laid is the function of a rest and spans, which may be.
func laid[V comparable](rest V, spans ...api.Span[V]) table[V] {
	f := tabled(func(rune) V { return rest })
	for _, s := range spans {
		for r := s.From; r <= s.To; r++ {
			f.values[r] = s.Val
		}
	}
	return f
}

// turned is f with each value turned by of.
func turned[V, W comparable](f table[V], of func(V) W) table[W] {
	return tabled(func(r rune) W { return of(f.values[r]) })
}

// spans go up number by number.
func (f table[V]) spans() []api.Span[V] {
	var all []api.Span[V]
	for r, v := range f.values {
		if r > 0 && f.values[r-1] == v {
			all[len(all)-1].To = rune(r)
			continue
		}
		all = append(all, api.Span[V]{From: rune(r), To: rune(r), Val: v})
	}
	return all
}

// parts are found as the chapter says them: each block is held against all earlier ones, the latest first.
func (f table[V]) parts() api.Parts[V] {
	var flat []uint16
	p := api.Parts[V]{}
	for low := range slices.Chunk(f.values, 64) {
		no := placeOf(p.Low, low)
		if no*64 == len(p.Low) {
			p.Low = append(p.Low, low...)
		}
		flat = append(flat, uint16(no))
	}
	for mid := range slices.Chunk(flat, 64) {
		no := placeOf(p.Mid, mid)
		if no*64 == len(p.Mid) {
			p.Mid = append(p.Mid, mid...)
		}
		p.Top = append(p.Top, uint16(no))
	}
	return p
}

// placeOf is the number of the block that is the same as this one, or the next number.
func placeOf[T comparable](blocks, block []T) int {
	next := len(blocks) / 64
	for no := next - 1; no >= 0; no-- {
		if slices.Equal(blocks[no*64:][:64], block) {
			return no
		}
	}
	return next
}

// isSameParts holds parts against others, values as f holds them.
func (f table[V]) isSameParts(got, want api.Parts[V]) bool {
	return slices.Equal(got.Top, want.Top) && slices.Equal(got.Mid, want.Mid) && slices.EqualFunc(got.Low, want.Low, f.same)
}

// isTrie holds all that a trie answers against the function written out, each number one by one.
func isTrie[V comparable](t *testing.T, what string, got *trie.Trie[V], f table[V]) {
	t.Helper()
	if got == nil {
		t.Fatal(what, "is nil")
	}
	for r, v := range f.values {
		if w := got.At(rune(r)); !f.same(w, v) {
			t.Fatalf("%s: At(%X) is %v, not %v", what, r, w, v)
		}
	}
	for _, r := range others() {
		if v, w := f.values[0xFFFD], got.At(r); !f.same(v, w) {
			t.Errorf("%s: At(%d) is %v, not %v", what, r, w, v)
		}
	}
	want := f.parts()
	if !f.isSameParts(got.Parts(), want) {
		t.Fatalf("%s: other parts", what)
	}
	if mid, low := got.Blocks(); mid != len(want.Mid)/64 || low != len(want.Low)/64 {
		t.Errorf("%s: Blocks are %d, %d, not %d, %d", what, mid, low, len(want.Mid)/64, len(want.Low)/64)
	}
	isSpans(t, what, got, f)
}

// isSpans holds what Spans tells against the function written out.
func isSpans[V comparable](t *testing.T, what string, got *trie.Trie[V], f table[V]) {
	t.Helper()
	want, n := f.spans(), 0
	for s := range got.Spans() {
		if n == len(want) || s.From != want[n].From || s.To != want[n].To || !f.same(s.Val, want[n].Val) {
			t.Fatalf("%s: Spans tells %v", what, s)
		}
		n++
	}
	if n != len(want) {
		t.Fatalf("%s: Spans tells %d, not %d", what, n, len(want))
	}
}

// others are numbers that have no value of their own.
func others() []rune {
	return []rune{-1, -2, -64, -65, -4096, -0x110000, -1 << 31, count, count + 1, count + 63, count + 64, count + 4096, 0x200000, 1<<31 - 1}
}

// span is an api.Span[int], in short.
func span(from, to rune, v int) api.Span[int] {
	return api.Span[int]{From: from, To: to, Val: v}
}

// built is the trie that Build answers, which must go well.
func built[V comparable](t *testing.T, rest V, spans ...api.Span[V]) *trie.Trie[V] {
	t.Helper()
	got, place, why := trie.Build(rest, spans...)
	if got == nil || place != 0 || why != api.OK {
		t.Fatalf("Build(%v, %v) is %v, %d, %v", rest, spans, got != nil, place, why)
	}
	return got
}

// taken is the trie that From answers, which must go well.
func taken[V comparable](t *testing.T, p api.Parts[V]) *trie.Trie[V] {
	t.Helper()
	got, why := trie.From(p)
	if got == nil || why != api.OK {
		t.Fatalf("From is %v, %v", got != nil, why)
	}
	return got
}

// edges are the numbers at which blocks begin and end, and some beside them.
func edges() []rune {
	return []rune{0, 1, 0x3E, 0x3F, 0x40, 0x7F, 0x80, 0xFFF, 0x1000, 0x103F, 0x1040, 0x1FFF, 0x2000, 0x10EFFF, 0x10F000, 0x10FFBF, 0x10FFC0, 0x10FFFE, 0x10FFFF}
}

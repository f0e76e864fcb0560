package trie_test

import (
	"slices"
	"testing"

	"furrow/api"
	"furrow/trie"
)

// P0.1, 11.5, 11.6: a trie that is nil, and a zero one, which is as a nil one.
func TestNilTrie(t *testing.T) {
	for _, none := range []*trie.Trie[string]{nil, {}, new(trie.Trie[string])} {
		for _, r := range slices.Concat(edges(), others()) {
			if v := none.At(r); v != "" {
				t.Errorf("At(%X) is %q", r, v)
			}
		}
		if p := none.Parts(); len(p.Top) != 0 || len(p.Mid) != 0 || len(p.Low) != 0 {
			t.Error(p)
		}
		if mid, low := none.Blocks(); mid != 0 || low != 0 {
			t.Error(mid, low)
		}
		for s := range none.Spans() {
			t.Errorf("Spans tells %v", s)
		}
		for r := range none.Where("") {
			t.Fatalf("Where tells %X", r)
		}
	}
}

// 11.5: numbers at the ends of blocks, below 0 and above 10FFFF, in a trie whose values are all unlike.
func TestAt(t *testing.T) {
	got := trie.Fill(func(r rune) rune { return r + 1 })
	for _, r := range edges() {
		if got.At(r) != r+1 {
			t.Errorf("At(%X) is %X", r, got.At(r))
		}
	}
	for _, r := range others() {
		if got.At(r) != 0xFFFE {
			t.Errorf("At(%d) is %X", r, got.At(r))
		}
	}
	for r := rune(0xD7FF); r <= 0xE000; r++ {
		if got.At(r) != r+1 {
			t.Errorf("At(%X) is %X: surrogates are numbers of their own", r, got.At(r))
		}
	}
}

// P0.1: Build changes nothing of what it is handed, spare room included, and does not keep it.
func TestBuildKeepsNothing(t *testing.T) {
	spans := []api.Span[int]{span(0x1000, 0x1FFF, 3), span(0x40, 0x7F, 2), span(5, 9, 1), span(7, 8, 9), span(-1, 0, 9)}
	before := slices.Clone(spans)
	got := built(t, 0, spans[:3]...)
	trie.Build(0, spans[:4]...)
	trie.Build(0, spans...)
	if !slices.Equal(spans, before) {
		t.Errorf("%v", spans)
	}
	clear(spans)
	isTrie(t, "kept", got, laid(0, before[:3]...))
}

// P0.1: what a trie answers hangs on nothing that is called besides, and is the same each time.
func TestTriesAreApart(t *testing.T) {
	f := fields()
	got := trieOf(f)
	for range 2 {
		built(t, 9)
		trie.Build(0, span(5, 4, 1))
		trie.From(api.Parts[int]{})
		trie.Map(got, func(v int) int { return v + 1 })
		for range got.Spans() {
			break
		}
		isTrie(t, "apart", got, f)
	}
}

// P0.1: each Parts is memory of its own.
func TestPartsAreNewEachTime(t *testing.T) {
	got := some(t)
	one, other := got.Parts(), got.Parts()
	one.Top[0], one.Mid[0], one.Low[0] = 9, 9, 9
	if other.Top[0] != 0 || other.Mid[0] != 0 || other.Low[0] != 0 {
		t.Error("shared")
	}
}

// The numbers that layer 11 owns.
func TestErrors(t *testing.T) {
	if api.ErrExtent != 110 || api.ErrMeets != 111 || api.ErrParts != 112 {
		t.Error(int(api.ErrExtent), int(api.ErrMeets), int(api.ErrParts))
	}
}

package trie_test

import (
	"fmt"
	"slices"
	"testing"

	"furrow/api"
	"furrow/trial"
	"furrow/trie"
)

// 11.1, 11.5, 11.6: the chapter's examples.
func TestBuildExamples(t *testing.T) {
	one := built(t, uint8(7))
	if mid, low := one.Blocks(); one.At(0) != 7 || one.At(-5) != 7 || one.At(api.MaxRune+1) != 7 || mid != 1 || low != 1 {
		t.Error(one.At(0), one.At(-5), one.At(api.MaxRune+1), mid, low)
	}
	p := one.Parts()
	if !slices.Equal(p.Top, make([]uint16, 272)) || !slices.Equal(p.Mid, make([]uint16, 64)) || !slices.Equal(p.Low, slices.Repeat([]uint8{7}, 64)) {
		t.Error(p)
	}
	two := built(t, 0, span(0x41, 0x5A, 1))
	if mid, low := two.Blocks(); mid != 2 || low != 2 {
		t.Error(mid, low)
	}
	if got := slices.Collect(two.Spans()); !slices.Equal(got, []api.Span[int]{span(0, 0x40, 0), span(0x41, 0x5A, 1), span(0x5B, 0x10FFFF, 0)}) {
		t.Error(got)
	}
	q := two.Parts()
	if q.Top[0] != 0 || q.Top[1] != 1 || q.Mid[0] != 0 || q.Mid[1] != 1 || q.Mid[2] != 0 || q.Mid[64] != 0 || q.Low[0] != 0 || q.Low[64] != 0 || q.Low[65] != 1 {
		t.Error(q)
	}
	isRefused(t, 0, api.ErrExtent, span(5, 4, 1))
	isRefused(t, 2, api.ErrMeets, span(0, 9, 1), span(0x20, 0x29, 1), span(9, 0xF, 2))
}

// isRefused asks Build, which must answer the place and the error, and nothing else.
func isRefused(t *testing.T, place int, why api.Errno, spans ...api.Span[int]) {
	t.Helper()
	if got, at, e := trie.Build(0, spans...); got != nil || at != place || e != why {
		t.Errorf("Build of %v is %v, %d, %v, not %d, %v", spans, got != nil, at, e, place, why)
	}
}

// 11.1: no span, as none and as an empty list.
func TestBuildOfNoSpan(t *testing.T) {
	want := tabled(func(rune) string { return "x" })
	isTrie(t, "none", built(t, "x"), want)
	isTrie(t, "an empty list", built(t, "x", []api.Span[string]{}...), want)
	isTrie(t, "nil", built(t, "x", []api.Span[string](nil)...), want)
}

// 11.1, 11.5, 11.6: one span, from each edge to each edge that is not below it.
func TestBuildOfOneSpan(t *testing.T) {
	few := []rune{0, 0x3F, 0x40, 0xFFF, 0x1000, 0x10F000, 0x10FFC0, 0x10FFFF}
	for _, from := range few {
		for _, to := range few {
			if from <= to {
				s := span(from, to, 1)
				isTrie(t, fmt.Sprintf("%X", s), built(t, 0, s), laid(0, s))
			}
		}
	}
}

// 11.1: spans that touch, leave gaps of one number, have the value of rest, or the value of the one beside them.
func TestBuildOfSeveralSpans(t *testing.T) {
	for _, spans := range [][]api.Span[int]{
		{span(0, 0x3F, 1), span(0x40, 0x7F, 2)},
		{span(0, 0x3F, 1), span(0x40, 0x7F, 1)},
		{span(0, 0x3E, 1), span(0x40, 0x7F, 1)},
		{span(0, 0xFFF, 1), span(0x1000, 0x1FFF, 1), span(0x2001, 0x10FFFF, 1)},
		{span(0, 0x10FFFF, 0)},
		{span(5, 9, 0), span(0x41, 0x1041, 0)},
		{span(0, 0x10FFFE, 3), span(0x10FFFF, 0x10FFFF, 4)},
		{span(0, 0, 3), span(1, 0x10FFFF, 4)},
		{span(0xFFFD, 0xFFFD, 3), span(0xD800, 0xDFFF, 4)},
		{span(0x1010, 0x1013, 1), span(0x2010, 0x2013, 1), span(0x2050, 0x2053, 1), span(0x5010, 0x5013, 1), span(0x6050, 0x6053, 2)},
	} {
		isTrie(t, fmt.Sprintf("%X", spans), built(t, 0, spans...), laid(0, spans...))
	}
}

// orders are all orders of the list.
func orders[T any](list []T) [][]T {
	if len(list) == 0 {
		return [][]T{nil}
	}
	var all [][]T
	for i := range list {
		for _, rest := range orders(slices.Concat(list[:i], list[i+1:])) {
			all = append(all, append([]T{list[i]}, rest...))
		}
	}
	return all
}

// 11.1, 11.7: spans in any order make the same trie.
func TestBuildInAnyOrder(t *testing.T) {
	spans := []api.Span[int]{span(0, 0x3F, 1), span(0x40, 0x40, 2), span(0x1000, 0x2FFF, 3), span(0x3000, 0x3000, 1), span(0x10FFFF, 0x10FFFF, 2)}
	want := laid(0, spans...)
	parts := want.parts()
	for _, order := range orders(spans) {
		got := built(t, 0, order...)
		if !want.isSameParts(got.Parts(), parts) {
			t.Fatalf("%X: other parts", order)
		}
	}
	isTrie(t, "falling", built(t, 0, trial.Reversed(spans)...), want)
}

// wrongSpans may not be.
func wrongSpans() []api.Span[int] {
	return []api.Span[int]{
		span(1, 0, 0), span(5, 4, 1), span(0x10FFFF, 0, 1), span(-1, 4, 1), span(-5, -1, 1), span(-5, -9, 1), span(0, -1, 1),
		span(0x10FFFF, 0x110000, 1), span(0x110000, 0x110000, 1), span(0x110000, 0x110005, 1), span(0x110000, 5, 1),
		span(-1<<31, 1<<31-1, 1), span(1<<31-1, -1<<31, 1), span(-1<<31, -1<<31, 1), span(1<<31-1, 1<<31-1, 1), span(0, 1<<31-1, 1), span(-1<<31, 0, 1),
	}
}

// 11.1: a span that may not be, at each place; the first one is told, whatever meets ahead of it or behind it.
func TestBuildRefusesExtents(t *testing.T) {
	right := []api.Span[int]{span(0, 9, 1), span(0x20, 0x29, 2), span(0x40, 0x49, 3)}
	for _, wrong := range wrongSpans() {
		isRefused(t, 0, api.ErrExtent, wrong)
		for place := range len(right) + 1 {
			isRefused(t, place, api.ErrExtent, slices.Insert(slices.Clone(right), place, wrong)...)
			isRefused(t, place, api.ErrExtent, append(slices.Insert(slices.Clone(right), place, wrong), wrong, span(3, 3, 1))...)
		}
		isRefused(t, 2, api.ErrExtent, span(0, 9, 1), span(9, 9, 1), wrong)
		isRefused(t, 3, api.ErrExtent, span(0, 9, 1), span(0, 9, 1), span(0, 9, 1), wrong, span(0, 9, 1))
	}
}

// 11.1: spans from each edge to each edge lie over others just if they have a number of them, which may be the first or the last one.
func TestBuildRefusesWhatMeets(t *testing.T) {
	had := []api.Span[int]{span(0x3F, 0x40, 1), span(0x1000, 0x1FFF, 2), span(0x10FFFF, 0x10FFFF, 3)}
	for _, from := range edges() {
		for _, to := range edges() {
			if from > to {
				continue
			}
			meets := false
			for _, s := range had {
				meets = meets || from <= s.To && s.From <= to
			}
			spans := append(slices.Clone(had), span(from, to, 1))
			if meets {
				isRefused(t, 3, api.ErrMeets, spans...)
				isRefused(t, 3, api.ErrMeets, append(spans, span(0, 0x10FFFF, 1))...)
			} else if _, low := built(t, 0, spans...).Blocks(); low < 2 {
				t.Errorf("%X: %d low blocks", spans, low)
			}
		}
	}
	isRefused(t, 1, api.ErrMeets, span(5, 5, 1), span(5, 5, 1))
	isRefused(t, 1, api.ErrMeets, span(0, 0x10FFFF, 1), span(5, 5, 1))
	isRefused(t, 1, api.ErrMeets, span(5, 5, 1), span(0, 0x10FFFF, 1))
	isRefused(t, 2, api.ErrMeets, span(0, 63, 1), span(128, 191, 1), span(60, 130, 1))
}

// plainly is what 11.1 says of spans: the place and the error.
func plainly(spans []api.Span[int]) (int, api.Errno) {
	for place, s := range spans {
		if s.From > s.To || s.From < 0 || s.To > 0x10FFFF {
			return place, api.ErrExtent
		}
	}
	for place, s := range spans {
		for _, ahead := range spans[:place] {
			if s.From <= ahead.To && ahead.From <= s.To {
				return place, api.ErrMeets
			}
		}
	}
	return 0, api.OK
}

// 11.1: many lists of spans against the promise's words: short ones near one another, so that some meet and some do not.
func TestBuildAgainstTheWords(t *testing.T) {
	next := trial.Numbers()
	pick := func(bound uint32) rune { return rune(next() >> 8 % bound) }
	seen := map[api.Errno]int{}
	for n := range 600 {
		var spans []api.Span[int]
		for range pick(14) {
			from := []rune{0, 0x1000, 0x10FE00}[pick(3)] + pick(511)
			spans = append(spans, span(from, from+pick(40)-pick(3), int(pick(4))))
		}
		place, why := plainly(spans)
		seen[why]++
		if why != api.OK {
			isRefused(t, place, why, spans...)
			continue
		}
		got, want := built(t, 0, spans...), laid(0, spans...)
		for r := range rune(0x1400) {
			if got.At(r) != want.values[r] {
				t.Fatalf("%X: At(%X) is %d", spans, r, got.At(r))
			}
		}
		isSpans(t, fmt.Sprintf("%X", spans), got, want)
		if n%50 == 0 {
			isTrie(t, fmt.Sprintf("%X", spans), got, want)
		}
	}
	if seen[api.OK] < 50 || seen[api.ErrMeets] < 50 || seen[api.ErrExtent] < 50 {
		t.Error(seen)
	}
}

// 11.1: as many spans as there are numbers, falling and in an order of their own; one more meets.
func TestBuildOfAllNumbers(t *testing.T) {
	falling, mixed := make([]api.Span[int], count), make([]api.Span[int], count)
	for i := range rune(count) {
		falling[i] = span(api.MaxRune-i, api.MaxRune-i, int(api.MaxRune-i)/1000)
		r := rune(int(i) * 1009 % count)
		mixed[i] = span(r, r, int(r)/1000)
	}
	want := trie.Fill(func(r rune) int { return int(r) / 1000 })
	if !trie.Same(built(t, -1, falling...), want) || !trie.Same(built(t, -1, mixed...), want) {
		t.Error("another trie")
	}
	for _, list := range [][]api.Span[int]{falling, mixed} {
		got, place, why := trie.Build(0, append(list, span(7, 7, 0))...)
		if got != nil || place != count || why != api.ErrMeets {
			t.Error(place, why)
		}
	}
}

// 11.2: at is asked once for each number, by rising numbers.
func TestFill(t *testing.T) {
	next := rune(0)
	values := make([]int, count)
	got := trie.Fill(func(r rune) int {
		if r != next {
			t.Fatalf("%X is asked, not %X", r, next)
		}
		next++
		values[r] = int(r) * 7 % 11 / 3
		if r >= 0x3000 && r < 0x100000 {
			values[r] = 0
		}
		return values[r]
	})
	if next != count {
		t.Errorf("%X numbers are asked", next)
	}
	isTrie(t, "filled", got, tabled(func(r rune) int { return values[r] }))
	if next != count {
		t.Error("at is asked again")
	}
}

// 11.2: a function that tells another value each time it is asked: each number has what was told of it.
func TestFillOfACounter(t *testing.T) {
	n := 0
	got := trie.Fill(func(rune) int { n++; return n })
	for r := range rune(count) {
		if got.At(r) != int(r)+1 {
			t.Fatalf("At(%X) is %d", r, got.At(r))
		}
	}
	if mid, low := got.Blocks(); mid != 272 || low != 17408 {
		t.Error(mid, low)
	}
}

// 11.2: of no function.
func TestFillOfNone(t *testing.T) {
	if trie.Fill[int](nil) != nil || trie.Fill[string](nil) != nil {
		t.Error("a trie of nothing")
	}
}

// 11.2: at may make tries itself.
func TestFillWithinFill(t *testing.T) {
	got := trie.Fill(func(r rune) int {
		if r%0x40000 == 0x1234 {
			return trie.Fill(func(s rune) int { return int(s) / 0x40000 }).At(r)
		}
		return 9
	})
	want := laid(9, span(0x1234, 0x1234, 0), span(0x41234, 0x41234, 1), span(0x81234, 0x81234, 2), span(0xC1234, 0xC1234, 3), span(0x101234, 0x101234, 4))
	isTrie(t, "within", got, want)
}

package trie_test

import (
	"fmt"
	"math"
	"testing"

	"furrow/api"
	"furrow/trie"
)

// 11.4: the chapter's example.
func TestMapExample(t *testing.T) {
	got := trie.Map(built(t, 0, span(0x41, 0x5A, 1)), func(v int) int { return v + 1 })
	if got.At(0x41) != 2 || got.At(0x40) != 1 {
		t.Error(got.At(0x41), got.At(0x40))
	}
}

// fields is a function with many kinds of blocks: some shared, some alone, some with one odd value.
func fields() table[int] {
	return laid(0,
		span(0, 0x1F, 1), span(0x40, 0x5F, 2), span(0x80, 0x9F, 3), span(0xC0, 0xC0, 4),
		span(0x1000, 0x101F, 1), span(0x2000, 0x203F, 5), span(0x3000, 0x3FFF, 6), span(0x4000, 0x4FFF, 7), span(0x5000, 0x8FFF, 8),
		span(0xFFFD, 0xFFFD, 9), span(0x10F000, 0x10F01F, 3), span(0x10FFE0, 0x10FFFF, 4))
}

// trieOf is the trie of f.
func trieOf[V comparable](f table[V]) *trie.Trie[V] {
	return trie.Fill(func(r rune) V { return f.values[r] })
}

// 11.4, 11.7: functions that leave values apart, that let some or all of them fall together, so that blocks do, and to other types.
func TestMap(t *testing.T) {
	f := fields()
	got := trieOf(f)
	for n, of := range []func(v int) int{
		func(v int) int { return v },
		func(v int) int { return -v },
		func(v int) int { return v % 2 },
		func(v int) int { return v / 3 },
		func(v int) int { return 5 },
		func(v int) int { return 4 - v%5 },
		func(v int) int { return v / 9 },
	} {
		isTrie(t, fmt.Sprint("function ", n), trie.Map(got, of), turned(f, of))
	}
	text := func(v int) string { return fmt.Sprint(v / 2) }
	isTrie(t, "to texts", trie.Map(got, text), turned(f, text))
	odd := func(v int) bool { return v%2 == 1 }
	isTrie(t, "to bools", trie.Map(got, odd), turned(f, odd))
	none := func(int) struct{} { return struct{}{} }
	isTrie(t, "to nothing", trie.Map(got, none), turned(f, none))
	isTrie(t, "the trie itself", got, f)
}

// 11.4: of is asked of values that some number has, of each of them, and of no other.
func TestMapAsks(t *testing.T) {
	f := fields()
	asked := map[int]int{}
	trie.Map(trieOf(f), func(v int) int { asked[v]++; return 0 })
	for v := range 10 {
		if asked[v] == 0 {
			t.Errorf("%d is not asked", v)
		}
	}
	if len(asked) != 10 {
		t.Error(asked)
	}
	twos := built(t, 2, span(0, 0x3F, 3))
	trie.Map(twos, func(v int) int {
		if v != 2 && v != 3 {
			t.Fatalf("%d is asked", v)
		}
		return 0
	})
}

// 11.4: of no trie, of a zero one, with no function.
func TestMapOfNone(t *testing.T) {
	id := func(v int) string { t.Error("asked"); return "" }
	for _, none := range []*trie.Trie[int]{nil, {}} {
		if trie.Map(none, id) != nil || trie.Map[int, string](none, nil) != nil {
			t.Error("a trie of none")
		}
	}
	if trie.Map[int, string](built(t, 5), nil) != nil {
		t.Error("a trie by no function")
	}
}

// 11.4: answers that are not == to themselves: blocks that were shared are shared no more.
func TestMapToValuesUnlikeThemselves(t *testing.T) {
	f := fields()
	nan := math.NaN()
	for n, of := range []func(v int) float64{
		func(v int) float64 { return []float64{0, nan}[v/9] },
		func(v int) float64 { return []float64{0, nan}[v%8/7] },
		func(v int) float64 { return []float64{1, 1, 1, nan, nan, 1, 1, 1, 1, 1}[v] },
	} {
		want := turned(f, of)
		want.same = isFloat
		isTrie(t, fmt.Sprint("function ", n), trie.Map(trieOf(f), of), want)
	}
	all := trie.Map(built(t, 1), func(int) float64 { return nan })
	if mid, low := all.Blocks(); mid != 272 || low != 17408 {
		t.Error(mid, low)
	}
	back := trie.Map(all, func(v float64) bool { return v == v })
	if !trie.Same(back, built(t, false)) {
		t.Error("another trie")
	}
}

// 11.4: each number has what of answers of the value that At answers, also where of tells apart what == does not.
func TestMapOfNoughts(t *testing.T) {
	minus := math.Copysign(0, -1)
	got := built(t, 0.0, api.Span[float64]{From: 0x41, To: 0x41, Val: 1}, api.Span[float64]{From: 0x45, To: 0x45, Val: minus}, api.Span[float64]{From: 0x1000, To: 0x1FFF, Val: minus})
	mapped := trie.Map(got, math.Signbit)
	for r := range rune(count) {
		if mapped.At(r) != math.Signbit(got.At(r)) {
			t.Fatalf("At(%X) is %t", r, mapped.At(r))
		}
	}
}

// 11.9: Map of Map is Map of both functions; Map with what leaves values as they are is Same.
func TestMapOfMap(t *testing.T) {
	got := trieOf(fields())
	all := []func(v int) int{
		func(v int) int { return v },
		func(v int) int { return v / 2 },
		func(v int) int { return v % 3 },
		func(v int) int { return 7 },
		func(v int) int { return v*v - 5 },
	}
	for i, one := range all {
		for j, other := range all {
			twice := trie.Map(trie.Map(got, one), other)
			once := trie.Map(got, func(v int) int { return other(one(v)) })
			if !trie.Same(twice, once) || !(table[int]{same: isInt}).isSameParts(twice.Parts(), once.Parts()) {
				t.Errorf("%d, %d: another trie", i, j)
			}
		}
	}
	if !trie.Same(trie.Map(got, all[0]), got) {
		t.Error("another trie")
	}
	there := trie.Map(got, func(v int) string { return fmt.Sprint(v) })
	back := trie.Map(there, func(s string) int { return int(s[0] - '0') })
	if !trie.Same(back, got) {
		t.Error("there and back is another trie")
	}
}

// 11.4, 11.7: tries of one function are the same and have the same parts, however they were made; those of others are not.
func TestSame(t *testing.T) {
	f := fields()
	first := trieOf(f)
	parts := first.Parts()
	for what, got := range map[string]*trie.Trie[int]{
		"Build of its spans":         built(t, 0, f.spans()...),
		"Build with another rest":    built(t, 77, f.spans()...),
		"From":                       taken(t, parts),
		"Map":                        trie.Map(first, func(v int) int { return v }),
		"Map of what falls together": trie.Map(trie.Fill(func(r rune) int { return f.values[r] + 10*(int(r)%3) }), func(v int) int { return v % 10 }),
	} {
		if !trie.Same(first, got) || !trie.Same(got, first) || !trie.Same(got, got) {
			t.Error(what, "is not the same")
		}
		if !(table[int]{same: isInt}).isSameParts(got.Parts(), parts) {
			t.Error(what, "has other parts")
		}
	}
	for _, r := range edges() {
		other := trie.Fill(func(s rune) int {
			if s == r {
				return 12
			}
			return f.values[s]
		})
		if trie.Same(first, other) || trie.Same(other, first) {
			t.Errorf("unlike at %X, and the same", r)
		}
	}
	for what, c := range map[string][2]*trie.Trie[int]{ // all else of their parts is the same
		"Top": {built(t, 0, span(0x1000, 0x1FFF, 1)), built(t, 0, span(0x1000, 0x2FFF, 1))},
		"Mid": {built(t, 0, span(0x40, 0x7F, 1)), built(t, 0, span(0x40, 0xBF, 1))},
		"Low": {built(t, 0, span(0x40, 0x7F, 1)), built(t, 0, span(0x40, 0x7F, 2))},
	} {
		if trie.Same(c[0], c[1]) || trie.Same(c[1], c[0]) {
			t.Errorf("unlike in %s alone, and the same", what)
		}
	}
	if trie.Same(built(t, 1), built(t, 2)) || trie.Same(first, built(t, 0)) || trie.Same(built(t, 0, span(0, 63, 1)), built(t, 0, span(64, 127, 1))) {
		t.Error("unlike ones are the same")
	}
	if trie.Same(built(t, 0, span(0, 0xFFF, 1)), built(t, 0, span(0x1000, 0x1FFF, 1))) || trie.Same(built(t, 0, span(0, 9, 1)), built(t, 1, span(0, 9, 0))) {
		t.Error("unlike ones are the same")
	}
}

// 11.4: Same of none, and of zero tries.
func TestSameOfNone(t *testing.T) {
	got, zero := built(t, 0), &trie.Trie[int]{}
	for _, pair := range [][2]*trie.Trie[int]{{nil, nil}, {got, nil}, {nil, got}, {zero, zero}, {zero, got}, {got, zero}, {zero, nil}} {
		if trie.Same(pair[0], pair[1]) {
			t.Error("none is the same")
		}
	}
}

// 11.4: values that are not == to themselves are not the same; noughts of either sign are.
func TestSameOfOddValues(t *testing.T) {
	odd := built(t, 0.0, api.Span[float64]{From: 5, To: 5, Val: math.NaN()})
	if trie.Same(odd, odd) || trie.Same(odd, taken(t, odd.Parts())) || trie.Same(odd, built(t, 0.0)) {
		t.Error("the same")
	}
	minus := math.Copysign(0, -1)
	if !trie.Same(built(t, minus), built(t, 0.0)) || !trie.Same(built(t, 0.0, api.Span[float64]{From: 5, To: 0x5000, Val: minus}), built(t, minus)) {
		t.Error("noughts are not the same")
	}
}

package trie_test

import (
	"fmt"
	"math"
	"slices"
	"testing"

	"furrow/api"
	"furrow/trie"
)

// pattern is a function with these values, of which no two are the same: stretches of each, single numbers, and one at each end.
func pattern[V comparable](values []V) table[V] {
	return tabled(func(r rune) V {
		switch {
		case r < 0x200:
			return values[int(r)%len(values)]
		case r < 0x3000:
			return values[int(r)/0x50%len(values)]
		case r == 0xFFFD || r == api.MaxRune:
			return values[len(values)-1]
		}
		return values[0]
	})
}

// tryValues holds tries of the values, made in all ways, against the function written out.
func tryValues[V comparable](t *testing.T, values ...V) {
	t.Helper()
	f := pattern(values)
	what := fmt.Sprintf("%T", values)
	filled := trieOf(f)
	isTrie(t, what, filled, f)
	isTrie(t, what+" by Build", built(t, values[0], f.spans()...), f)
	isTrie(t, what+" by From", taken(t, f.parts()), f)
	places := trie.Map(filled, func(v V) int { return slices.Index(values, v) })
	isTrie(t, what+" to places", places, turned(f, func(v V) int { return slices.Index(values, v) }))
	isTrie(t, what+" and back", trie.Map(places, func(at int) V { return values[at] }), f)
	for _, v := range values {
		if !slices.Equal(slices.Collect(filled.Where(v)), f.where(v)) {
			t.Errorf("%s: Where(%v) tells others", what, v)
		}
	}
}

// 11.1 to 11.7: values of several types.
func TestValuesOfSeveralTypes(t *testing.T) {
	type inner struct {
		a string
		b [2]int8
	}
	tryValues(t, false, true)
	tryValues(t, api.L, api.R, api.AL)
	tryValues(t, int32(0), -1, 1<<31-1, -1<<31)
	tryValues(t, "", "a", "\xff", "aa", "a long text that is longer than a few bytes")
	tryValues(t, 0, 0.5, math.Inf(1), math.Inf(-1))
	tryValues(t, 0, 1i, 1)
	tryValues(t, [2]int{}, [2]int{0, 1}, [2]int{1, 0})
	tryValues(t, [3]string{}, [3]string{"a"}, [3]string{"", "a"})
	tryValues(t, inner{}, inner{a: "a"}, inner{a: "a", b: [2]int8{0, 1}})
	tryValues(t, api.Point{}, api.Point{Class: api.ON}, api.Point{Class: api.ON, Turns: true})
	tryValues(t, nil, new(int), new(int))
	tryValues(t, make(chan int), make(chan int))
	tryValues(t, struct{}{})
	tryValues(t, [0]int{})
	tryValues(t, [9]uint16{}, [9]uint16{8: 1})
}

// 11.1 to 11.6: values that are not == to themselves: each number has its own, and each block with one is alone.
func TestValuesUnlikeThemselves(t *testing.T) {
	nan := math.NaN()
	spans := []api.Span[float64]{{From: 5, To: 5, Val: nan}, {From: 0x45, To: 0x45, Val: nan}, {From: 0x1045, To: 0x1045, Val: nan}, {From: 0x2F00, To: 0x3100, Val: nan}, {From: 0x10FFFF, To: 0x10FFFF, Val: nan}}
	f := laid(1.5, spans...)
	f.same = isFloat
	isTrie(t, "by Build", built(t, 1.5, spans...), f)
	isTrie(t, "by Fill", trieOf(f), f)
	isTrie(t, "by From", taken(t, f.parts()), f)
	isTrie(t, "by Map", trie.Map(trieOf(f), func(v float64) float64 { return v }), f)
	type pair struct {
		a string
		b float64
	}
	g := laid(pair{"x", 0}, api.Span[pair]{From: 0x40, To: 0xBF, Val: pair{"x", nan}}, api.Span[pair]{From: 0x5000, To: 0x5000, Val: pair{"y", nan}})
	g.same = func(a, b pair) bool { return a.a == b.a && isFloat(a.b, b.b) }
	isTrie(t, "structs", trieOf(g), g)
	isTrie(t, "structs by Build", built(t, pair{"x", 0}, api.Span[pair]{From: 0x40, To: 0xBF, Val: pair{"x", nan}}, api.Span[pair]{From: 0x5000, To: 0x5000, Val: pair{"y", nan}}), g)
}

// 11.1, 11.2, 11.5, 11.8: a function of such values alone has as many blocks as can be.
func TestNothingButValuesUnlikeThemselves(t *testing.T) {
	nan := math.NaN()
	for what, got := range map[string]*trie.Trie[float64]{
		"rest":   built(t, nan),
		"a span": built(t, 0, api.Span[float64]{From: 0, To: 0x10FFFF, Val: nan}),
		"Fill":   trie.Fill(func(rune) float64 { return nan }),
		"From":   taken(t, built(t, nan).Parts()),
	} {
		if mid, low := got.Blocks(); mid != 272 || low != 17408 {
			t.Errorf("%s: %d, %d", what, mid, low)
		}
		p := got.Parts()
		for i, no := range p.Mid {
			if int(no) != i {
				t.Fatalf("%s: Mid[%d] is %d", what, i, no)
			}
		}
		for i, no := range p.Top {
			if int(no) != i {
				t.Fatalf("%s: Top[%d] is %d", what, i, no)
			}
		}
		if !math.IsNaN(got.At(0)) || !math.IsNaN(got.At(-1)) || !math.IsNaN(got.At(api.MaxRune)) {
			t.Error(what, got.At(0))
		}
		n := rune(0)
		for s := range got.Spans() {
			if s.From != n || s.To != n || !math.IsNaN(s.Val) {
				t.Fatalf("%s: Spans tells %v", what, s)
			}
			n++
		}
		if n != count {
			t.Errorf("%s: %d spans", what, n)
		}
	}
}

// 11.1 to 11.6: noughts of either sign are the same: their blocks are shared, and their stretches are one.
func TestNoughtsOfEitherSign(t *testing.T) {
	minus := math.Copysign(0, -1)
	at := func(r rune) float64 {
		if r == 0x77 {
			return 1
		}
		return []float64{0, minus}[r*7%11%2]
	}
	filled := trie.Fill(at)
	f := tabled(at)
	isTrie(t, "by Fill", filled, f)
	isTrie(t, "by Build", built(t, minus, api.Span[float64]{From: 0x77, To: 0x77, Val: 1}, api.Span[float64]{From: 0, To: 0x20, Val: 0}), f)
	isTrie(t, "by Map", trie.Map(trie.Fill(func(r rune) int { return int(r) % 5 }), func(v int) float64 { return []float64{0, minus}[v%2] }), laid(0.0))
	if mid, low := filled.Blocks(); mid != 2 || low != 2 || len(slices.Collect(filled.Spans())) != 3 {
		t.Error(mid, low)
	}
}

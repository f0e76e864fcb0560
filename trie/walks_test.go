package trie_test

import (
	"iter"
	"math"
	"slices"
	"testing"

	"furrow/api"
	"furrow/trial"
	"furrow/trie"
)

// where goes up number by number.
func (f table[V]) where(v V) []rune {
	var all []rune
	for r, w := range f.values {
		if v == w {
			all = append(all, rune(r))
		}
	}
	return all
}

// 11.6: the numbers of each value, and of a value that none has.
func TestWhere(t *testing.T) {
	f := fields()
	got := trieOf(f)
	for v := -1; v < 11; v++ {
		if told := slices.Collect(got.Where(v)); !slices.Equal(told, f.where(v)) {
			t.Errorf("Where(%d) tells %d numbers, not %d", v, len(told), len(f.where(v)))
		}
	}
	ends := built(t, "", api.Span[string]{From: 0, To: 0, Val: "x"}, api.Span[string]{From: 0x10FFFF, To: 0x10FFFF, Val: "x"})
	if told := slices.Collect(ends.Where("x")); !slices.Equal(told, []rune{0, 0x10FFFF}) {
		t.Errorf("%X", told)
	}
	if told := slices.Collect(built(t, 5).Where(5)); len(told) != count || told[0] != 0 || told[api.MaxRune] != api.MaxRune || !slices.IsSorted(told) {
		t.Error(len(told))
	}
	if told := slices.Collect(built(t, 5).Where(0)); told != nil {
		t.Error(len(told))
	}
}

// 11.6: values that are not == to themselves are nowhere, and each number that has one is a stretch; noughts of either sign are one value.
func TestWalksOfOddValues(t *testing.T) {
	nan, minus := math.NaN(), math.Copysign(0, -1)
	spans := []api.Span[float64]{{From: 0x3E, To: 0x41, Val: nan}, {From: 0x42, To: 0x50, Val: minus}, {From: 0x1000, To: 0x1FFF, Val: minus}, {From: 0x2000, To: 0x2000, Val: 1}}
	got := built(t, 0.0, spans...)
	want := laid(0.0, spans...)
	want.same = func(a, b float64) bool { return a == b || a != a && b != b }
	isTrie(t, "odd", got, want)
	if told := slices.Collect(got.Where(nan)); told != nil {
		t.Errorf("%X", told)
	}
	for _, nought := range []float64{0, minus} {
		if told := slices.Collect(got.Where(nought)); len(told) != count-5 || !slices.Equal(told, want.where(0)) {
			t.Error(len(told))
		}
	}
	if told := slices.Collect(got.Where(1)); !slices.Equal(told, []rune{0x2000}) {
		t.Errorf("%X", told)
	}
}

// 11.6: stretches that end at each edge, whatever stands ahead: the same block twice, a block that is met again behind others.
func TestSpansAtEdges(t *testing.T) {
	for _, r := range edges() {
		ahead, behind := tabled(func(s rune) bool { return s < r }), tabled(func(s rune) bool { return s <= r })
		isSpans(t, "ahead", trieOf(ahead), ahead)
		isSpans(t, "behind", trieOf(behind), behind)
		alone := tabled(func(s rune) bool { return s == r })
		isSpans(t, "alone", trieOf(alone), alone)
	}
	for _, width := range []rune{1, 2, 31, 32, 33, 63, 64, 65, 127, 128, 129, 4095, 4096, 4097} {
		turns := tabled(func(s rune) rune { return s / width % 3 })
		isSpans(t, "turns", trieOf(turns), turns)
		pairs := tabled(func(s rune) bool { return s%(4*width) < 3*width })
		isSpans(t, "pairs", trieOf(pairs), pairs)
		odd := tabled(func(s rune) bool { return s%64 != width%64 })
		isSpans(t, "one odd number a block", trieOf(odd), odd)
	}
}

// 11.6, P0.1: walks that are left early, gone over again, and gone over within themselves.
func TestWalksLeftEarly(t *testing.T) {
	got := trieOf(fields())
	if wrong := trial.LeaveEarly(trial.Beside(got.Spans())); wrong != "" {
		t.Error("Spans:", wrong)
	}
	for _, v := range []int{1, 4, 5} {
		if wrong := trial.LeaveEarly(trial.Beside(got.Where(v))); wrong != "" {
			t.Errorf("Where(%d): %s", v, wrong)
		}
	}
	odd := built(t, 0.0, api.Span[float64]{From: 0x3E, To: 0x41, Val: math.NaN()})
	n := 0
	odd.Spans()(func(s api.Span[float64]) bool {
		n++
		return n < 3
	})
	if n != 3 {
		t.Errorf("%d are told", n)
	}
}

// 11.6, P0.1: two walks at once, of one trie and of two.
func TestWalksAtOnce(t *testing.T) {
	one, other := trieOf(fields()), some(t)
	all, others := slices.Collect(one.Spans()), slices.Collect(other.Spans())
	next, stop := iter.Pull(one.Spans())
	nextToo, stopToo := iter.Pull(one.Spans())
	nextOther, stopOther := iter.Pull(other.Spans())
	defer stop()
	defer stopToo()
	defer stopOther()
	next()
	for i := range len(all) + 1 {
		for _, c := range []struct {
			next func() (api.Span[int], bool)
			want []api.Span[int]
			at   int
		}{{next, all, i + 1}, {nextToo, all, i}, {nextOther, others, i}} {
			s, more := c.next()
			if more != (c.at < len(c.want)) || more && c.want[c.at] != s {
				t.Fatalf("%v, %v at %d", s, more, c.at)
			}
		}
	}
}

// 11.7: Build of any rest and what Spans told is the same function again.
func TestBuildOfSpans(t *testing.T) {
	for what, got := range map[string]*trie.Trie[int]{
		"one value": built(t, 3),
		"some":      some(t),
		"fields":    trieOf(fields()),
		"turns":     trie.Fill(func(r rune) int { return int(r) % 7 }),
		"unlike":    trie.Fill(func(r rune) int { return int(r) }),
	} {
		spans := slices.Collect(got.Spans())
		for _, rest := range []int{0, 3, -1} {
			if !trie.Same(built(t, rest, spans...), got) {
				t.Error(what, rest, "is another one")
			}
		}
	}
	odd := built(t, 0.0, api.Span[float64]{From: 0x3E, To: 0x41, Val: math.NaN()}, api.Span[float64]{From: 0x1000, To: 0x2000, Val: math.NaN()})
	again := built(t, 5, slices.Collect(odd.Spans())...)
	if !(table[float64]{same: isFloat}).isSameParts(again.Parts(), odd.Parts()) {
		t.Error("other parts")
	}
}

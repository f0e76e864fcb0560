package trie_test

import (
	"fmt"
	"math"
	"slices"
	"testing"

	"furrow/api"
	"furrow/trie"
)

// areParts is whether p is the parts of some function, by the chapter's words of how they are numbered.
func areParts[V comparable](p api.Parts[V]) bool {
	if len(p.Top) != 272 || len(p.Mid)%64 != 0 || len(p.Low)%64 != 0 {
		return false
	}
	if !rises(p.Top, len(p.Mid)/64) || !rises(p.Mid, len(p.Low)/64) || !unlike(p.Mid) || !unlike(p.Low) {
		return false
	}
	met := make([]int, len(p.Low)/64)
	for _, mid := range p.Top {
		for _, low := range p.Mid[int(mid)*64:][:64] {
			met[low]++
		}
	}
	for no, times := range met {
		block := p.Low[no*64:][:64]
		if times > 1 && !slices.Equal(block, block) {
			return false
		}
	}
	return true
}

// rises is whether all numbers below the bound, and no others, are in the list, each for the first time behind the one below it.
func rises(list []uint16, bound int) bool {
	next := 0
	for _, no := range list {
		if int(no) > next {
			return false
		}
		if int(no) == next {
			next++
		}
	}
	return next == bound
}

// unlike is whether no two of the blocks are the same.
func unlike[T comparable](list []T) bool {
	for from := 0; from < len(list); from += 64 {
		if placeOf(list[:from], list[from:][:64])*64 != from {
			return false
		}
	}
	return true
}

// isAnswered holds what From answers of p against the words, and is whether it goes well.
func isAnswered[V comparable](t *testing.T, what string, p api.Parts[V], same func(a, b V) bool) bool {
	t.Helper()
	got, why := trie.From(p)
	if !areParts(p) {
		if got != nil || why != api.ErrParts {
			t.Errorf("%s: %v, %v, not ErrParts", what, got != nil, why)
		}
		return false
	}
	if got == nil || why != api.OK || !(table[V]{same: same}).isSameParts(got.Parts(), p) {
		t.Errorf("%s: %v, %v, or other parts", what, got != nil, why)
		return false
	}
	for _, r := range edges() {
		v := p.Low[int(p.Mid[int(p.Top[r>>12])*64+int(r>>6&63)])*64+int(r&63)]
		if !same(got.At(r), v) {
			t.Errorf("%s: At(%X) is %v, not %v", what, r, got.At(r), v)
		}
	}
	return true
}

func copied[V any](p api.Parts[V]) api.Parts[V] {
	return api.Parts[V]{Top: slices.Clone(p.Top), Mid: slices.Clone(p.Mid), Low: slices.Clone(p.Low)}
}

func isInt(a, b int) bool { return a == b }

// some is a trie with three middle blocks and four low ones: 0 and 1 alone, one that begins as 0 does, one that ends so.
func some(t *testing.T) *trie.Trie[int] {
	return built(t, 0, span(0x1000, 0x1FFF, 1), span(0x10F020, 0x10F03F, 1), span(0x10F040, 0x10F05F, 2))
}

// 11.3: the chapter's examples, and what is next to them.
func TestFromExamples(t *testing.T) {
	for _, p := range []api.Parts[uint8]{{}, {Top: []uint16{}, Mid: []uint16{}, Low: []uint8{}}} {
		if got, why := trie.From(p); got != nil || why != api.ErrParts {
			t.Errorf("From of no parts is %v, %v", got != nil, why)
		}
	}
	p := built(t, uint8(7)).Parts()
	if got := taken(t, p); !trie.Same(got, built(t, uint8(7))) {
		t.Error("another trie")
	}
	p.Mid[3] = 1
	if got, why := trie.From(p); got != nil || why != api.ErrParts {
		t.Errorf("From is %v, %v", got != nil, why)
	}
}

// 11.3: each number of Top, of Mid and of Low changed to each that may be and to some that may not.
func TestFromWithOneChanged(t *testing.T) {
	right := some(t).Parts()
	if !isAnswered(t, "unchanged", right, isInt) || len(right.Mid) != 3*64 || len(right.Low) != 4*64 {
		t.Fatal(len(right.Mid), len(right.Low))
	}
	well, ill := 0, 0
	try := func(what string, p api.Parts[int]) {
		if isAnswered(t, what, p, isInt) {
			well++
		} else {
			ill++
		}
	}
	for i := range right.Top {
		for _, no := range []uint16{0, 1, 2, 3, 65535} {
			p := copied(right)
			p.Top[i] = no
			try(fmt.Sprintf("Top[%d] = %d", i, no), p)
		}
	}
	for i := range right.Mid {
		for _, no := range []uint16{0, 1, 2, 3, 4, 65535} {
			p := copied(right)
			p.Mid[i] = no
			try(fmt.Sprintf("Mid[%d] = %d", i, no), p)
		}
	}
	for i := range right.Low {
		for _, v := range []int{0, 1, 2, 3} {
			p := copied(right)
			p.Low[i] = v
			try(fmt.Sprintf("Low[%d] = %d", i, v), p)
		}
	}
	if well < 500 || ill < 500 {
		t.Error(well, ill)
	}
}

// 11.3: too few and too many numbers and values.
func TestFromOfOtherLengths(t *testing.T) {
	right := some(t).Parts()
	for _, n := range []int{1, 2, 63, 64, 65, 128, 192} {
		for what, p := range map[string]api.Parts[int]{
			"Top cut":         {Top: right.Top[:272-n], Mid: right.Mid, Low: right.Low},
			"Top cut ahead":   {Top: right.Top[n:], Mid: right.Mid, Low: right.Low},
			"Mid cut":         {Top: right.Top, Mid: right.Mid[:192-n], Low: right.Low},
			"Mid cut ahead":   {Top: right.Top, Mid: right.Mid[n:], Low: right.Low},
			"Low cut":         {Top: right.Top, Mid: right.Mid, Low: right.Low[:256-n]},
			"Low cut ahead":   {Top: right.Top, Mid: right.Mid, Low: right.Low[n:]},
			"Top and more":    {Top: slices.Concat(right.Top, make([]uint16, n)), Mid: right.Mid, Low: right.Low},
			"Mid and more":    {Top: right.Top, Mid: slices.Concat(right.Mid, make([]uint16, n)), Low: right.Low},
			"Mid and another": {Top: right.Top, Mid: slices.Concat(right.Mid, slices.Repeat([]uint16{3}, n)), Low: right.Low},
			"Low and more":    {Top: right.Top, Mid: right.Mid, Low: slices.Concat(right.Low, make([]int, n))},
			"Low and another": {Top: right.Top, Mid: right.Mid, Low: slices.Concat(right.Low, slices.Repeat([]int{9}, n))},
		} {
			if isAnswered(t, fmt.Sprint(what, n), p, isInt) {
				t.Errorf("%s %d goes well", what, n)
			}
		}
	}
	for _, p := range []api.Parts[int]{
		{Top: right.Top}, {Mid: right.Mid}, {Low: right.Low}, {Top: right.Top, Mid: right.Mid}, {Top: right.Top, Low: right.Low}, {Mid: right.Mid, Low: right.Low},
		{Top: right.Top, Mid: slices.Repeat(right.Mid, 500), Low: right.Low},
		{Top: right.Top, Mid: right.Mid, Low: slices.Repeat(right.Low, 20000)},
	} {
		if isAnswered(t, "without one", p, isInt) {
			t.Error("goes well")
		}
	}
}

// wrongOrders are parts that lead to a value for each number, but are not as the function's own ones.
func wrongOrders(right api.Parts[int]) map[string]api.Parts[int] {
	all := map[string]api.Parts[int]{}
	one, two := right.Low[:64], right.Low[64:128]
	p := copied(right) // low blocks numbered the other way round
	copy(p.Low, two)
	copy(p.Low[64:], slices.Clone(one))
	for i, no := range p.Mid {
		p.Mid[i] = []uint16{1, 0, 2, 3}[no]
	}
	all["low blocks turned round"] = p
	q := copied(right) // middle ones
	copy(q.Mid, right.Mid[64:128])
	copy(q.Mid[64:], right.Mid[:64])
	for i, no := range q.Top {
		q.Top[i] = []uint16{1, 0, 2}[no]
	}
	all["middle blocks turned round"] = q
	both := api.Parts[int]{Top: slices.Repeat([]uint16{1, 0}, 136)} // both kinds at once, so that Mid is as it should be
	both.Mid = slices.Concat(make([]uint16, 64), slices.Repeat([]uint16{1}, 64))
	both.Low = slices.Concat(make([]int, 64), slices.Repeat([]int{1}, 64))
	all["all blocks turned round"] = both
	r := copied(right) // the low block 1 stands there twice, and both are led to
	r.Low = append(r.Low, two...)
	r.Mid[2*64+63] = 4
	all["a low block twice"] = r
	s := copied(right)
	s.Mid = append(s.Mid, s.Mid[:64]...)
	s.Top[271] = 3
	s.Top[270] = 2
	all["a middle block twice"] = s
	u := copied(right)
	u.Low = append(u.Low, slices.Repeat([]int{9}, 64)...)
	all["a low block that is not met"] = u
	w := copied(right)
	w.Mid = append(w.Mid, slices.Repeat([]uint16{3}, 64)...)
	all["a middle block that is not met"] = w
	return all
}

// 11.3: numbers that are met too early, too late or not at all, and blocks that are the same twice.
func TestFromOfOtherOrders(t *testing.T) {
	right := some(t).Parts()
	for what, p := range wrongOrders(right) {
		if isAnswered(t, what, p, isInt) {
			t.Error(what, "goes well")
		}
	}
}

// 11.3, 11.7: From of Parts goes well, up to the greatest parts that there are.
func TestFromOfParts(t *testing.T) {
	for what, got := range map[string]*trie.Trie[int]{
		"one value":       built(t, 5),
		"some":            some(t),
		"all unlike":      trie.Fill(func(r rune) int { return int(r) }),
		"low ones unlike": trie.Fill(func(r rune) int { return int(r >> 6) }),
		"by 4096":         trie.Fill(func(r rune) int { return int(r >> 12) }),
		"by 64":           trie.Fill(func(r rune) int { return int(r & 63) }),
		"by all of them":  trie.Fill(func(r rune) int { return int(r&63 + r>>6&63 + r>>12) }),
	} {
		p := got.Parts()
		again := taken(t, p)
		if !trie.Same(got, again) || !(table[int]{same: isInt}).isSameParts(again.Parts(), p) {
			t.Error(what, "is another trie")
		}
		for r := range rune(count) {
			if again.At(r) != got.At(r) {
				t.Fatalf("%s: At(%X) is %d, not %d", what, r, again.At(r), got.At(r))
			}
		}
	}
}

func isFloat(a, b float64) bool { return math.Float64bits(a) == math.Float64bits(b) }

// 11.3: a block with a value that is not == to itself is one of its own wherever it stands: parts that lead to it twice are no function's.
func TestFromOfValuesUnlikeThemselves(t *testing.T) {
	nan := math.NaN()
	one := api.Parts[float64]{Top: make([]uint16, 272), Mid: make([]uint16, 64), Low: make([]float64, 64)}
	if !isAnswered(t, "noughts", one, isFloat) {
		t.Error("noughts are refused")
	}
	one.Low[63] = nan
	if isAnswered(t, "led to by all", one, isFloat) {
		t.Error("a block for all places is taken")
	}
	right := built(t, 0.0, api.Span[float64]{From: 0x1041, To: 0x1041, Val: nan}).Parts()
	if !isAnswered(t, "led to once", right, isFloat) || len(right.Mid) != 128 || len(right.Low) != 128 {
		t.Error("what is led to once is refused")
	}
	for what, change := range map[string]func(p api.Parts[float64]){
		"twice in one middle block": func(p api.Parts[float64]) { p.Mid[64+2] = 1 },
		"by two middle blocks":      func(p api.Parts[float64]) { p.Top[5] = 1 },
	} {
		p := copied(right)
		change(p)
		if isAnswered(t, what, p, isFloat) {
			t.Error(what, "goes well")
		}
	}
	p := copied(right)
	p.Low = append(p.Low, p.Low[64:]...)
	p.Mid[64+2] = 2
	if !isAnswered(t, "two blocks of the same look", p, isFloat) {
		t.Error("two blocks of the same look are refused")
	}
	p.Low[128+1] = 0
	p.Low[128+2] = nan
	if !isAnswered(t, "two unlike ones", p, isFloat) {
		t.Error("two unlike blocks are refused")
	}
}

// 11.3: noughts of either sign are the same, so that blocks that differ by them alone are.
func TestFromOfNoughts(t *testing.T) {
	p := built(t, 0.0, api.Span[float64]{From: 0x41, To: 0x41, Val: 1}).Parts()
	if !isAnswered(t, "as it is", p, isFloat) {
		t.Error("refused")
	}
	p.Low[5] = math.Copysign(0, -1)
	if !isAnswered(t, "a minus nought", p, isFloat) {
		t.Error("refused")
	}
	p.Low[64+1] = math.Copysign(0, -1)
	if isAnswered(t, "unlike by signs alone", p, isFloat) {
		t.Error("goes well")
	}
}

// 11.3, 11.5, P0.1: what was handed to From, and what came from Parts, may be changed afterwards.
func TestPartsAreCopies(t *testing.T) {
	want := laid(0, span(0x1000, 0x1FFF, 1), span(0x10F020, 0x10F03F, 1), span(0x10F040, 0x10F05F, 2))
	spoil := func(p api.Parts[int]) {
		for _, list := range [][]uint16{p.Top[:cap(p.Top)], p.Mid[:cap(p.Mid)]} {
			for i := range list {
				list[i] = 65535
			}
		}
		for i := range p.Low[:cap(p.Low)] {
			p.Low[:cap(p.Low)][i] = -1
		}
	}
	first := some(t)
	spoil(first.Parts())
	p := first.Parts()
	got := taken(t, p)
	mapped := trie.Map(first, func(v int) int { return v })
	spoil(p)
	spoil(got.Parts())
	spoil(mapped.Parts())
	isTrie(t, "Build", first, want)
	isTrie(t, "From", got, want)
	isTrie(t, "Map", mapped, want)
}

// 11.3, P0.1: From changes nothing of what it is handed, spare room included, whether it goes well or not.
func TestFromChangesNothing(t *testing.T) {
	right := some(t).Parts()
	all := wrongOrders(right)
	all["right"] = right
	for what, p := range all {
		roomy := api.Parts[int]{Top: append(p.Top, 7, 7, 7)[:len(p.Top)], Mid: append(p.Mid, 7, 7, 7)[:len(p.Mid)], Low: append(p.Low, 7, 7, 7)[:len(p.Low)]}
		trie.From(roomy)
		if !(table[int]{same: isInt}).isSameParts(roomy, p) {
			t.Error(what, "is changed")
		}
		for i := range 3 {
			if roomy.Top[:len(p.Top)+3][len(p.Top)+i] != 7 || roomy.Mid[:len(p.Mid)+3][len(p.Mid)+i] != 7 || roomy.Low[:len(p.Low)+3][len(p.Low)+i] != 7 {
				t.Error(what, "is changed behind its end")
			}
		}
	}
}

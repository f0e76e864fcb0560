package utf_test

import (
	"iter"
	"slices"
	"testing"

	"furrow/api"
	"furrow/utf"
)

// leaveEarly goes over seq up to each of its items in turn: nothing is told behind the one at which it was left, and the next walk begins anew.
func leaveEarly[A, B comparable](t *testing.T, name string, seq iter.Seq2[A, B]) {
	t.Helper()
	all := collect(seq)
	if len(all) < 4 {
		t.Fatalf("%s: too little is told: %v", name, all)
	}
	for stop := 1; stop <= len(all); stop++ {
		var got []pair[A, B]
		seq(func(a A, b B) bool {
			got = append(got, pair[A, B]{a, b})
			return len(got) < stop
		})
		if !slices.Equal(got, all[:stop]) {
			t.Errorf("%s: left at %d: %v", name, stop, got)
		}
	}
	if got := collect(seq); !slices.Equal(got, all) {
		t.Errorf("%s: gone over again: %v, not %v", name, got, all)
	}
	n := 0
	for a, b := range seq {
		if (pair[A, B]{a, b}) != all[n] {
			t.Errorf("%s: with a walk within it: %v, %v at %d", name, a, b, n)
		}
		if got := collect(seq); !slices.Equal(got, all) {
			t.Errorf("%s: within itself: %v", name, got)
		}
		n++
	}
}

// P0.1, P1.2, P1.4, P1.5: iterators that are left early and gone over again.
func TestIteratorsLeftEarly(t *testing.T) {
	const s = "a\xc3\xa9\xe2\x82" + fffd + "\xff\xf0\x9f\x98\x80\xf0\x9f\x98"
	leaveEarly(t, "All", utf.All(s))
	leaveEarly(t, "Back", utf.Back(s))
	leaveEarly(t, "Pieces", utf.Pieces(s))
	leaveEarly(t, "Walk", utf.New(s).Walk(1))
	leaveEarly(t, "Spots", func(yield func(api.Spot, bool) bool) {
		utf.Spots(s)(func(spot api.Spot) bool { return yield(spot, true) })
	})
}

// P0.1: what is handed in is not changed, spare room included, and not kept.
func TestEncodeLeavesItsList(t *testing.T) {
	list := []rune{'a', -1, 0xD800, 'b', 'c'}
	before := slices.Clone(list)
	s := utf.Encode(list[:3]...)
	if !slices.Equal(list, before) {
		t.Errorf("changed to %x", list)
	}
	clear(list)
	if s != "a"+fffd+fffd {
		t.Errorf("kept: %x", s)
	}
}

// P0.1: an answer is new memory.
func TestAnswersAreNew(t *testing.T) {
	const s = "a\xc3\xa9\xe2\x82"
	strict := func(s string) []rune {
		l, _ := utf.Strict(s)
		return l
	}
	for name, call := range map[string]func(string) []rune{"Runes": utf.Runes, "Parts": utf.Parts, "Strict": strict} {
		text := s
		if name == "Strict" {
			text = s[:3]
		}
		one, two := call(text), call(text)
		clear(one[:cap(one)])
		if slices.Equal(one, two) || !slices.Equal(two, call(text)) {
			t.Errorf("%s: %x, %x", name, one, two)
		}
	}
	_, one := utf.Strict(s)
	_, two := utf.Strict(s)
	*one = api.Spot{}
	if *two != (api.Spot{Byte: 3, Width: 1, Rune: 0xFFFD, Code: api.ErrCut}) {
		t.Errorf("Strict: %v", *two)
	}
}

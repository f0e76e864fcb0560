package utf_test

import (
	"slices"
	"testing"

	"furrow/api"
	"furrow/trial"
	"furrow/utf"
)

// P0.1, P1.2, P1.4, P1.5: iterators that are left early and gone over again.
func TestIteratorsLeftEarly(t *testing.T) {
	const s = "a\xc3\xa9\xe2\x82" + fffd + "\xff\xf0\x9f\x98\x80\xf0\x9f\x98"
	spots := func(yield func(api.Spot, bool) bool) {
		utf.Spots(s)(func(spot api.Spot) bool { return yield(spot, true) })
	}
	for name, wrong := range map[string]string{
		"All":    trial.LeaveEarly(utf.All(s)),
		"Back":   trial.LeaveEarly(utf.Back(s)),
		"Pieces": trial.LeaveEarly(utf.Pieces(s)),
		"Walk":   trial.LeaveEarly(utf.New(s).Walk(1)),
		"Spots":  trial.LeaveEarly(spots),
	} {
		if wrong != "" {
			t.Errorf("%s: %s", name, wrong)
		}
	}
}

// P0.1: what is handed in is not changed, spare room included, and not kept.
func TestEncodeLeavesItsList(t *testing.T) {
	list := []rune{'a', -1, 0xD800, 'b', 'c'}
	before := slices.Clone(list)
	s := utf.Encode(list[:3]...)
	if !slices.Equal(list, before) {
		t.Errorf("changed to %x", list)
	}
	clear(list)
	if s != "a"+fffd+fffd {
		t.Errorf("kept: %x", s)
	}
}

// P0.1: an answer is new memory.
func TestAnswersAreNew(t *testing.T) {
	const s = "a\xc3\xa9\xe2\x82"
	strict := func(s string) []rune {
		l, _ := utf.Strict(s)
		return l
	}
	for name, call := range map[string]func(string) []rune{"Runes": utf.Runes, "Parts": utf.Parts, "Strict": strict} {
		text := s
		if name == "Strict" {
			text = s[:3]
		}
		one, two := call(text), call(text)
		clear(one[:cap(one)])
		if slices.Equal(one, two) || !slices.Equal(two, call(text)) {
			t.Errorf("%s: %x, %x", name, one, two)
		}
	}
	_, one := utf.Strict(s)
	_, two := utf.Strict(s)
	*one = api.Spot{}
	if *two != (api.Spot{Byte: 3, Width: 1, Rune: 0xFFFD, Code: api.ErrCut}) {
		t.Errorf("Strict: %v", *two)
	}
}

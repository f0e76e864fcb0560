package tables

import (
	"furrow/api"
	"furrow/trie"
)

// beyond is above each number. No value is above it, nor below minus it.
const beyond = api.MaxRune + 1

// checked is t, 0 and OK; or nothing, the least number at which t is wrong, and why.
func (t *Tables) checked() (*Tables, rune, api.Errno) {
	if r := t.wrong(); r < beyond {
		return nil, r, api.ErrPacked
	}
	if r := t.amiss(); r < beyond {
		return nil, r, api.ErrAmiss
	}
	return t, 0, api.OK
}

// wrong is the least number of which one of the tries has a value that may not be; beyond, if there is none.
func (t *Tables) wrong() rune {
	return min(
		firstUnlike(t.class, isClass),
		firstUnlike(t.bracket, isBracket),
		firstUnlike(t.twin, isOther),
		firstUnlike(t.mirror, isOther),
	)
}

// firstUnlike is the least number whose value is not right; beyond, if there is none.
func firstUnlike[V comparable](t *trie.Trie[V], right func(v V) bool) rune {
	for s := range t.Spans() {
		if !right(s.Val) {
			return s.From
		}
	}
	return beyond
}

func isClass(c api.Class) bool { return c >= api.L && c <= api.PDI }
func isBracket(v int32) bool   { return v >= -beyond && v <= beyond }
func isOther(v int32) bool     { return v >= 0 && v <= beyond }

// amiss is the least number at which tables whose values may be do not go together; beyond, if there is none.
func (t *Tables) amiss() rune {
	return min(
		firstAmiss(t.bracket, t.isLone),
		firstAmiss(t.twin, t.isNoTwin),
		firstAmiss(t.mirror, t.isOwnMirror),
	)
}

// firstAmiss is the least number that has something in t, and of which amiss is true; beyond, if there is none.
func firstAmiss[V comparable](t *trie.Trie[V], amiss func(r rune) bool) rune {
	var none V
	for s := range t.Spans() {
		for r := s.From; s.Val != none && r <= s.To; r++ {
			if amiss(r) {
				return r
			}
		}
	}
	return beyond
}

// isLone is whether the bracket r's other one does not lead back to it, or its class is not ON.
func (t *Tables) isLone(r rune) bool {
	other, side := t.Bracket(r)
	back, otherSide := t.Bracket(other)
	return back != r || otherSide == api.None || otherSide == side || t.Class(r) != api.ON
}

// isNoTwin is whether r, which has a twin, is no bracket, or not one that can be the same as its twin. One that is its own twin need not be asked for: then the twin has one, too.
func (t *Tables) isNoTwin(r rune) bool {
	other, side := t.Bracket(r)
	twin := t.Twin(r)
	twinOther, twinSide := t.Bracket(twin)
	_, moves := named(t.twin.At, twin)
	return side == api.None || twinSide != side || moves || twinOther != t.Twin(other)
}

func (t *Tables) isOwnMirror(r rune) bool {
	to, _ := t.Mirror(r)
	return to == r
}

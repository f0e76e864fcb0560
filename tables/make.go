package tables

import (
	"math"

	"furrow/api"
	"furrow/trie"
)

// Over is the tables that say what p says; or none, the least number at which p is wrong, and why.
func Over(p api.Packed) (*Tables, rune, api.Errno) {
	t := &Tables{class: taken(p.Class), bracket: taken(p.Bracket), twin: taken(p.Twin), mirror: taken(p.Mirror)}
	if t.class == nil || t.bracket == nil || t.twin == nil || t.mirror == nil {
		return nil, 0, api.ErrPacked
	}
	return t.checked()
}

// taken is the trie whose parts p are; nil, if they are no trie's.
func taken[V comparable](p api.Parts[V]) *trie.Trie[V] {
	t, _ := trie.From(p)
	return t
}

// Pack is the tables that say what p tells; or none, the least number of which it tells what can't be, and why.
func Pack(p api.Props) (*Tables, rune, api.Errno) {
	if p == nil {
		return nil, 0, api.ErrNil
	}
	t := &Tables{
		class:   trie.Fill(p.Class),
		bracket: trie.Fill(func(r rune) int32 { return bracketValue(p.Bracket(r)) }),
		twin:    trie.Fill(func(r rune) int32 { return twinValue(r, p.Twin(r)) }),
		mirror:  trie.Fill(func(r rune) int32 { return mirrorValue(p.Mirror(r)) }),
	}
	return t.checked()
}

// unsaid is the value of what tables can't say. It is none that may be.
const unsaid = math.MinInt32

// value is that of what tells of r.
func value(r rune) int32 {
	if !isNumber(r) {
		return unsaid
	}
	return r + 1
}

func bracketValue(other rune, side api.Side) int32 {
	switch side {
	case api.None:
		return 0
	case api.Opens:
		return value(other)
	case api.Closes:
		return -value(other) // minus unsaid is unsaid: it wraps round
	}
	return unsaid
}

func twinValue(r, twin rune) int32 {
	if twin == r {
		return 0
	}
	return value(twin)
}

func mirrorValue(to rune, is bool) int32 {
	if !is {
		return 0
	}
	return value(to)
}

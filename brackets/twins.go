package brackets

import (
	"maps"

	"furrow/api"
)

// Twins is a book of b's rows with the twins that l says, and no others; or none, and the place of the first of l that counts and may not be.
func (b *Book) Twins(l ...api.Twin) (*Book, int, api.Errno) {
	if !b.made() {
		return nil, 0, api.ErrNil
	}
	twinned := &Book{rows: maps.Clone(b.rows), twins: map[rune]rune{}}
	for _, t := range l {
		twinned.addTwin(t)
	}
	for place, t := range l { // whether one may be hangs on those behind it too
		if !twinned.allows(t) {
			return nil, place, api.ErrTwin
		}
	}
	return twinned, 0, api.OK
}

// addTwin takes up what t says, if it counts: the first one of an At holds.
func (b *Book) addTwin(t api.Twin) {
	_, counts := b.rows[t.At]
	if _, is := b.twins[t.At]; counts && !is {
		b.twins[t.At] = t.As
	}
}

// allows is whether t may be, or does not count. Its numbers are asked as they are: one that is no code point is no row's At.
func (b *Book) allows(t api.Twin) bool {
	at, counts := b.rows[t.At]
	if !counts {
		return true
	}
	as, is := b.rows[t.As]
	_, moves := b.twins[t.As]
	return is && !moves && as.Side == at.Side && b.Twin(at.Other) == as.Other
}

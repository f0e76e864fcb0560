package utf

import (
	"iter"
	"slices"

	"furrow/api"
)

// Places are a text's places, by bytes and by characters.
type Places struct {
	text   string
	starts []int // the byte place of each character, and behind them that of the text's end: so what New made has one at least
}

// New is the places of s.
func New(s string) *Places {
	starts := make([]int, 0, Count(s)+1)
	for at := range s {
		starts = append(starts, at)
	}
	return &Places{text: s, starts: append(starts, len(s))}
}

func (p *Places) isMade() bool {
	return p != nil && len(p.starts) > 0
}

// Text is the text whose places these are.
func (p *Places) Text() string {
	if !p.isMade() {
		return ""
	}
	return p.text
}

// Len is how many characters there are.
func (p *Places) Len() int {
	if !p.isMade() {
		return 0
	}
	return len(p.starts) - 1
}

// Byte is the byte place at which the character at begins; of Len, how many bytes there are.
func (p *Places) Byte(at int) (int, api.Errno) {
	if !p.isMade() {
		return 0, api.ErrNil
	}
	if at < 0 || at > p.Len() {
		return 0, api.ErrArg
	}
	return p.starts[at], api.OK
}

// At is the place of the character that has the byte; of the number of bytes, Len.
func (p *Places) At(byte int) (int, api.Errno) {
	if !p.isMade() {
		return 0, api.ErrNil
	}
	if byte < 0 || byte > len(p.text) {
		return 0, api.ErrArg
	}
	at, begins := slices.BinarySearch(p.starts, byte)
	if !begins {
		at--
	}
	return at, api.OK
}

// Begins tells whether a character begins at the byte, or the text ends there.
func (p *Places) Begins(byte int) bool {
	if !p.isMade() {
		return false
	}
	_, begins := slices.BinarySearch(p.starts, byte)
	return begins
}

// Rune is the character at that place.
func (p *Places) Rune(at int) (rune, api.Errno) {
	if !p.isMade() {
		return 0, api.ErrNil
	}
	if at < 0 || at >= p.Len() {
		return 0, api.ErrArg
	}
	return First(p.text[p.starts[at]:]).Rune, api.OK
}

// Slice is the bytes of the characters from that one up to the other, that one not.
func (p *Places) Slice(from, to int) (string, api.Errno) {
	if !p.isMade() {
		return "", api.ErrNil
	}
	if from < 0 || from > to || to > p.Len() {
		return "", api.ErrArg
	}
	return p.text[p.starts[from]:p.starts[to]], api.OK
}

// Walk tells the characters from that one on, each with its character place.
func (p *Places) Walk(from int) iter.Seq2[int, rune] {
	return func(yield func(int, rune) bool) {
		at := max(from, 0)
		if at >= p.Len() {
			return
		}
		for _, r := range p.text[p.starts[at]:] {
			if !yield(at, r) {
				return
			}
			at++
		}
	}
}

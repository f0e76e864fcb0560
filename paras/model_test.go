package paras_test

import (
	"regexp"
	"strings"
	"testing"

	"furrow/api"
	"furrow/trial"
	"furrow/utf"
)

// teller is props that tell classes by a function, and nothing else.
type teller func(r rune) api.Class

func (t teller) Class(r rune) api.Class       { return t(r) }
func (teller) Bracket(rune) (rune, api.Side)  { return 0, api.None }
func (teller) Twin(r rune) rune               { return r }
func (teller) Mirror(rune) (rune, bool)       { return 0, false }
func props() api.Props                        { return teller(classOf) }
func propsWith(r rune, c api.Class) api.Props { return teller(with(r, c)) }
func with(r rune, c api.Class) func(rune) api.Class {
	return func(x rune) api.Class {
		if x == r {
			return c
		}
		return classOf(x)
	}
}

// classOf is the classes of the chapter's examples, and a few more: one that is none, separators of two and three bytes, a surrogate's.
func classOf(r rune) api.Class {
	switch r {
	case 0x0A, 0x0D, 0x85, 0x2029:
		return api.B
	case 'a', 0xD800:
		return api.L
	case 0x5D0:
		return api.R
	case 0x627:
		return api.AL
	case 'n':
		return 0
	case 'x':
		return 99
	case '<':
		return api.LRI
	case '>':
		return api.PDI
	}
	return api.ON
}

// none are numbers that are no class.
func none() []api.Class {
	return []api.Class{0, api.PDI + 1, 99, 255}
}

// every is all numbers that a class may have, those that are none, too.
func every() []api.Class {
	var out []api.Class
	for c := range 256 {
		out = append(out, api.Class(c))
	}
	return out
}

// cut is how the paragraphs lie in a text of which each letter is a character: c a carriage return and n a line feed of the class B, b another B.
var cut = regexp.MustCompile(`[^cnb]*(cn|c|n|b)|[^cnb]+`)

// modelSplit is the paragraphs by a text of letters.
func modelSplit(l []rune, classes []api.Class) []api.Piece {
	var letters strings.Builder
	for at, c := range classes {
		switch {
		case c != api.B:
			letters.WriteByte('x')
		case len(l) > 0 && l[at] == 0x0D:
			letters.WriteByte('c')
		case len(l) > 0 && l[at] == 0x0A:
			letters.WriteByte('n')
		default:
			letters.WriteByte('b')
		}
	}
	var out []api.Piece
	for _, ends := range cut.FindAllStringIndex(letters.String(), -1) {
		out = append(out, api.Piece{From: ends[0], To: ends[1]})
	}
	return out
}

// modelEach is the paragraphs of a text with their bytes, which are laid one by one.
func modelEach(p api.Props, text string) []trial.Pair[api.Piece, string] {
	var runes []rune
	var classes []api.Class
	var bytes []string
	for spot := range utf.Spots(text) {
		runes = append(runes, spot.Rune)
		classes = append(classes, p.Class(spot.Rune))
		bytes = append(bytes, text[spot.Byte:spot.Byte+spot.Width])
	}
	var out []trial.Pair[api.Piece, string]
	for _, piece := range modelSplit(runes, classes) {
		out = append(out, trial.Pair[api.Piece, string]{A: piece, B: strings.Join(bytes[piece.From:piece.To], "")})
	}
	return out
}

func isBeginning(c api.Class) bool { return c == api.LRI || c == api.RLI || c == api.FSI }
func isStrong(c api.Class) bool    { return c == api.L || c == api.R || c == api.AL }

// modelEnd is the place of the PDI that belongs to the beginning there, by counting; the length, if none does.
func modelEnd(classes []api.Class, at int) int {
	open := 1
	for i := at + 1; i < len(classes) && classes[i] != api.B; i++ {
		if isBeginning(classes[i]) {
			open++
		}
		if classes[i] == api.PDI {
			open--
		}
		if open == 0 {
			return i
		}
	}
	return len(classes)
}

// modelMatch is what belongs together, each beginning looked through by itself.
func modelMatch(classes []api.Class) []int {
	out := make([]int, len(classes))
	for i := range out {
		out[i] = -1
	}
	for i, c := range classes {
		if !isBeginning(c) {
			continue
		}
		out[i] = modelEnd(classes, i)
		if out[i] < len(classes) {
			out[out[i]] = i
		}
	}
	return out
}

// modelFirst is the first strong one that is not left out: what belongs together is reckoned in the whole list.
func modelFirst(classes []api.Class, s api.Piece) (int, bool) {
	left := make([]bool, len(classes))
	for i, end := range modelMatch(classes) {
		if i < s.From || i >= s.To || !isBeginning(classes[i]) {
			continue
		}
		for k := i; k < min(end, s.To); k++ {
			left[k] = true
		}
	}
	for i := s.From; i < s.To; i++ {
		if isStrong(classes[i]) && !left[i] {
			return i, true
		}
	}
	return 0, false
}

// modelLevel is the level that a paragraph has by itself.
func modelLevel(classes []api.Class) api.Level {
	at, is := modelFirst(classes, api.Piece{From: 0, To: len(classes)})
	if is && classes[at] != api.L {
		return 1
	}
	return 0
}

// well hands on what came with OK.
func well[A any](t *testing.T) func(a A, why api.Errno) A {
	return func(a A, why api.Errno) A {
		t.Helper()
		if why != api.OK {
			t.Fatal(why)
		}
		return a
	}
}

func piece(from, to int) api.Piece { return api.Piece{From: from, To: to} }

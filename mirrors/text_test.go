package mirrors_test

import (
	"strings"
	"testing"

	"furrow/api"
	"furrow/mirrors"
	"furrow/trial"
	"furrow/utf"
)

// numbers are what is looked up: edges, what is no code point, and what stands in the lists.
func numbers() []rune {
	return []rune{least, -2, -1, 0, 1, 'A', 'a', 'b', 'c', 'd', 0xD7FF, 0xD800, 0xDFFF, 0xE000, 0xFFFC, 0xFFFD, 0xFFFE, api.MaxRune, beyond, beyond + 1, most}
}

// isOf holds Of against that answer.
func isOf(t *testing.T, l []api.Mirror, r, want rune, wantIs bool) {
	t.Helper()
	if got, is := mirrors.Of(l, r); got != want || is != wantIs {
		t.Fatalf("Of %X in %v = %X, %v, not %X, %v", r, l, got, is, want, wantIs)
	}
}

// P9.5: the chapter's examples.
func TestOf(t *testing.T) {
	isOf(t, examples(), 0x28, 0x29, true)
	isOf(t, examples(), 0x41, 0x41, false)
}

// P9.5: of no mirrors, the number itself.
func TestOfNothing(t *testing.T) {
	for _, r := range numbers() {
		isOf(t, nil, r, r, false)
		isOf(t, []api.Mirror{}, r, r, false)
		isOf(t, []api.Mirror{{}}, r, r, r == 0) // 0 to 0, which may not be
	}
}

// P9.5: in lists that may not be; of two of one From the first.
func TestOfAnyList(t *testing.T) {
	isOf(t, turns('a', 'b'), 'a', 'b', true)
	isOf(t, turns('a', 'b'), 'b', 'b', false)
	isOf(t, turns('a', 'b', 'a', 'c'), 'a', 'b', true)
	isOf(t, turns('a', 'c', 'x', 'y', 'a', 'b'), 'a', 'c', true)
	isOf(t, turns('a', 'a', 'a', 'b'), 'a', 'a', true)
	isOf(t, turns('a', 'b', 'b', 'c'), 'b', 'c', true)
}

// P9.5: numbers below 0 and above 10FFFF are asked as they are.
func TestOfNoPoints(t *testing.T) {
	l := turns(-1, 'a', beyond, 'b', 'c', -7, 'd', most, 0xFFFD, 'x')
	isOf(t, l, -1, 'a', true)
	isOf(t, l, -2, -2, false)
	isOf(t, l, beyond, 'b', true)
	isOf(t, l, beyond+1, beyond+1, false)
	isOf(t, l, 'c', -7, true)
	isOf(t, l, 'd', most, true)
	isOf(t, l, 0xFFFD, 'x', true)
	isOf(t, turns(-1, 'a'), 0xFFFD, 0xFFFD, false)
	isOf(t, pairs(0xFFFD, 'x'), -1, -1, false)
	isOf(t, pairs(0xFFFD, 'x'), least, least, false)
	isOf(t, pairs(0xFFFD, 'x'), most, most, false)
	isOf(t, pairs(0xD800, 'x'), 0xD800, 'x', true)
	isOf(t, pairs(0xD800, 'x'), 0xDFFF, 0xDFFF, false)
}

// P9.5, P9.8: all lists of up to four mirrors; there and back of those that may be.
func TestOfAllLists(t *testing.T) {
	count := 0
	lists(func(l []api.Mirror) {
		_, why := wrongOf(l)
		for _, r := range numbers() {
			to, is := ofOf(l, r)
			isOf(t, l, r, to, is)
			if why == api.OK {
				isOf(t, l, to, r, is)
				count++
			}
		}
	})
	if count < 1000 {
		t.Errorf("only %d there and back", count)
	}
}

// isTurned holds Text against that answer.
func isTurned(t *testing.T, l []api.Mirror, text, want string, wantCount int) {
	t.Helper()
	if got, count := mirrors.Text(l, text); got != want || count != wantCount {
		t.Fatalf("Text of %q by %v = %q, %d, not %q, %d", text, l, got, count, want, wantCount)
	}
}

// P9.6: the chapter's example.
func TestText(t *testing.T) {
	isTurned(t, examples(), "a(b)\xc2«", "a)b(\xc2»", 3)
}

// P9.6: no mirrors, and texts without one: all stands as it stood.
func TestTextNothing(t *testing.T) {
	for s := range trial.Texts() {
		isTurned(t, nil, s, s, 0)
		isTurned(t, pairs(0x10FFFE, 0x10FFFD, 0xD800, 0xDFFF), s, s, 0)
	}
	isTurned(t, examples(), "", "", 0)
	isTurned(t, []api.Mirror{}, "(", "(", 0)
}

// P9.6: bytes that stand for no character, and FFFD in three bytes, with and without a mirror of FFFD.
func TestTextWrongBytes(t *testing.T) {
	l := pairs(0xFFFD, 'x', '(', ')')
	for _, wrong := range []string{"\xff", "\x80", "\xc0\x80", "\xe2\x82", "\xed\xa0\x80", "\xf0\x9f\x98", "\xf4\x90\x80\x80", "\xef\xbf", "\xbf\xbd", "\xef", "\xef\xbf\xef\xbf"} {
		isTurned(t, l, wrong, wrong, 0)
		isTurned(t, l, wrong+"\uFFFD", wrong+"x", 1)
		isTurned(t, l, "\uFFFD"+wrong, "x"+wrong, 1)
		isTurned(t, l, "x"+wrong+"("+wrong, "\uFFFD"+wrong+")"+wrong, 2)
		isTurned(t, examples(), wrong+"\uFFFD("+wrong, wrong+"\uFFFD)"+wrong, 1)
	}
	isTurned(t, l, "\xef\xbf\xbd\xbf\xbd", "x\xbf\xbd", 1)
	isTurned(t, turns(0xFFFD, 0xFFFD), "\xff\uFFFD\xff", "\xff\uFFFD\xff", 1)
	isTurned(t, turns('a', 0xFFFD), "a\xff", "\uFFFD\xff", 1)
}

// P9.6: mirrors from one byte to four, and back, between right and wrong bytes.
func TestTextWidths(t *testing.T) {
	wide := []rune{'a', 'é', '€', '😀', 0, 0x7F, 0x80, 0x7FF, 0x800, 0xFFFF, 0x10000, 0x10FFFF}
	for _, from := range wide {
		for _, to := range wide {
			for _, beside := range []string{"", "-", "\xff", "\xe2\x82", "\uFFFD", "\xf0"} {
				one, other := string(from), string(to)
				isTurned(t, turns(from, to), beside+one+beside+one+one, beside+other+beside+other+other, 3)
			}
		}
	}
}

// P9.6: what is no character is FFFD as a To, and stands in no text as a From.
func TestTextNoCharacters(t *testing.T) {
	for _, none := range []rune{0xD800, 0xDBFF, 0xDC00, 0xDFFF, -1, least, beyond, most} {
		isTurned(t, turns('a', none), "ba", "b\uFFFD", 1)
		isTurned(t, turns(none, 'a'), "b\uFFFD\xff\xed\xa0\x80", "b\uFFFD\xff\xed\xa0\x80", 0)
		isTurned(t, append(turns(none, 'a'), turns('b', none, 0xFFFD, 'c')...), "b\uFFFD\xff", "\uFFFDc\xff", 2)
	}
}

// P9.6: lists that may not be: the first of two, and one that is its own mirror, which counts.
func TestTextAnyList(t *testing.T) {
	isTurned(t, turns('a', 'b', 'a', 'c'), "aab", "bbb", 2)
	isTurned(t, turns('a', 'b', 'b', 'c'), "abc", "bcc", 2) // what was replaced is not replaced again
	isTurned(t, turns('a', 'a'), "aba", "aba", 2)
	isTurned(t, turns('a', 'a', 'a', 'b'), "aba", "aba", 2)
}

// someTurns are lists by which texts are turned.
func someTurns() [][]api.Mirror {
	return [][]api.Mirror{
		nil, examples(), pairs('A', 0xFFFD), pairs(0xFFFD, 0), pairs('A', '😀', 0xE9, 0x20AC, 0x9F, 0x7FF), pairs('A', 0x10FFFF, 0xFFFD, 0xDF), pairs(0, 0x7F, 0xBF, 0x8F),
		turns('A', 0xFFFD), turns(0xFFFD, 'A', 'A', 'A'), turns('A', 0xD800, 0xFFFD, -1), turns(-1, 'A', 0xD800, 'A'), pairs(0xD800, 'A'),
	}
}

// isTwice holds Text against P9.9, and, by mirrors that may be and are characters, Text of what it answers against P9.8.
func isTwice(t *testing.T, l []api.Mirror, s string) {
	t.Helper()
	turned, count := isText(t, l, s)
	ahead, behind := utf.Runes(s), utf.Runes(turned)
	if len(ahead) != len(behind) {
		t.Fatalf("%q by %v has %d characters, and %d behind it", s, l, len(ahead), len(behind))
	}
	for i, r := range ahead {
		to, _ := ofOf(l, r)
		if behind[i] != r && utf.Encode(behind[i]) != utf.Encode(to) {
			t.Fatalf("%q by %v has %X at %d", s, l, behind[i], i)
		}
	}
	if _, why := wrongOf(l); why == api.OK && !hasHalves(l) {
		isTurned(t, l, turned, s, count)
	}
}

// hasHalves is whether a From or a To is a surrogate.
func hasHalves(l []api.Mirror) bool {
	for _, m := range l {
		if !utf.Scalar(m.From) || !utf.Scalar(m.To) {
			return true
		}
	}
	return false
}

// P9.6, P9.8, P9.9: all sorts of right and wrong bytes.
func TestTextAllBytes(t *testing.T) {
	for s := range trial.Texts() {
		for _, l := range someTurns() {
			isTwice(t, l, s)
		}
	}
}

// P9.6, P9.8, P9.9: all texts of up to four pieces, right and wrong ones beside one another.
func TestTextAllPieces(t *testing.T) {
	l := pairs('(', ')', 0xAB, 0x1F600, 'x', 0xFFFD, 0x20AC, 0xE9)
	for s := range trial.Joined([]string{"(", ")", "x", "a", "«", "😀", "€", "\uFFFD", "\xff", "\xc2", "\xe2\x82", "\xf0\x9f"}, 4) {
		isTwice(t, l, s)
		isTwice(t, l[:1], s)
		isTwice(t, l[4:6], s)
	}
}

// P9.6, P9.8: long texts, and many mirrors.
func TestTextLong(t *testing.T) {
	var l []api.Mirror
	for r := rune(0x2200); r < 0x2C00; r += 2 {
		l = append(l, pairs(r, r+1)...)
	}
	s := strings.Repeat("a∈∋\xe2\x88", 1<<16)
	turned, count := mirrors.Text(l, s)
	if count != 1<<17 || turned != strings.Repeat("a∉∊\xe2\x88", 1<<16) {
		t.Errorf("%d are replaced", count)
	}
	isTurned(t, l, turned, s, count)
}

package brackets_test

import (
	"testing"

	"furrow/api"
	"furrow/trial"
)

// 8.4: numbers that are no code points count as FFFD does, be that a bracket or not; surrogates as themselves.
func TestNumbers(t *testing.T) {
	beyonds := []rune{-1 << 31, -2, -1, beyond, beyond + 1, 1<<31 - 1}
	for _, rows := range [][]api.Bracket{
		nil, pairs('(', ')'), pairs(0, api.MaxRune), pairs(api.MaxRune, 0), pairs(0xFFFC, 0xFFFE), pairs(api.Replaced, '('), pairs('(', api.Replaced), pairs(0xD800, 0xDFFF),
	} {
		b := bookOf(t, rows)
		isBook(t, b, rows)
		wantOther, wantSide := b.Bracket(api.Replaced)
		for _, r := range beyonds {
			if other, side := b.Bracket(r); other != wantOther || side != wantSide || b.Twin(r) != api.Replaced {
				t.Errorf("%X: %X has %X, %d, the twin %X", rows, r, other, side, b.Twin(r))
			}
			if b.Matches(r, '(') != b.Matches(api.Replaced, '(') || b.Matches('(', r) != b.Matches('(', api.Replaced) {
				t.Errorf("%X: %X matches as FFFD does not", rows, r)
			}
		}
	}
	b := bookOf(t, pairs(api.Replaced, 'x', '(', ')'), twins(api.Replaced, '(', 'x', ')')...)
	for _, r := range beyonds {
		if other, side := b.Bracket(r); other != 'x' || side != api.Opens || b.Twin(r) != '(' || !b.Matches(r, 'x') || !b.Matches(r, ')') || b.Matches('(', r) {
			t.Errorf("%X has %X, %d, the twin %X", r, other, side, b.Twin(r))
		}
	}
	closing := bookOf(t, pairs('x', api.Replaced))
	for _, r := range beyonds {
		if !closing.Matches('x', r) || closing.Matches(r, 'x') {
			t.Errorf("%X does not close x", r)
		}
	}
}

// 8.4: each two of a few, twins among them, and what is no bracket.
func TestMatches(t *testing.T) {
	b := bookOf(t, pairs('(', ')', 0x2329, 0x232A, 0x3008, 0x3009, '[', ']'), twins(0x2329, 0x3008, 0x232A, 0x3009, '(', 0x3008, ')', 0x3009)...)
	same := map[rune]int{'(': 1, ')': 1, 0x2329: 1, 0x232A: 1, 0x3008: 1, 0x3009: 1, '[': 2, ']': 2}
	opens := map[rune]bool{'(': true, 0x2329: true, 0x3008: true, '[': true}
	all := []rune{'(', ')', 0x2329, 0x232A, 0x3008, 0x3009, '[', ']', 'a', 0, -1, beyond, api.Replaced}
	for _, first := range all {
		for _, second := range all {
			want := opens[first] && same[second] != 0 && !opens[second] && same[first] == same[second]
			if got := b.Matches(first, second); got != want {
				t.Errorf("Matches of %X and %X = %v", first, second, got)
			}
		}
	}
	plain := bookOf(t, pairs('(', ')', 0x2329, 0x232A))
	if plain.Matches('(', 0x232A) || plain.Matches(0x2329, ')') || !plain.Matches(0x2329, 0x232A) {
		t.Error("brackets without twins match others")
	}
}

// 8.4: each code point, and what is beside them.
func TestEachCodePoint(t *testing.T) {
	rows := pairs('(', ')', 0x2329, 0x232A, 0x3008, 0x3009, 0, api.MaxRune, 0xD800, 0xDFFF)
	l := twins(0x2329, 0x3008, 0x232A, 0x3009)
	b := bookOf(t, rows, l...)
	for r := rune(0); r <= api.MaxRune; r++ {
		want, _ := rowOf(rows, r)
		if other, side := b.Bracket(r); other != want.Other || side != want.Side || b.Twin(r) != twinOf(rows, l, r) {
			t.Fatalf("%X has %X, %d, the twin %X", r, other, side, b.Twin(r))
		}
	}
}

// 8.7: books of all sorts.
func TestInPairs(t *testing.T) {
	isInPairs(t, bookOf(t, nil))
	isInPairs(t, bookOf(t, angles()))
	isInPairs(t, bookOf(t, angles(), twins(0x2329, 0x3008, 0x232A, 0x3009, 'a', 'b')...))
	good := 0
	for size := range 5 {
		for rows := range trial.Words(pairs('(', ')', '[', '(', ']', '[', ')', ']'), size) {
			if _, why := refusalOf(rows); why == api.OK {
				isInPairs(t, bookOf(t, rows))
				good++
			}
		}
	}
	if good < 20 {
		t.Errorf("only %d lists are books", good)
	}
}

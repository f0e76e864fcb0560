package brackets_test

import (
	"errors"
	"fmt"
	"slices"
	"strings"
	"testing"

	"furrow/api"
	"furrow/brackets"
)

const (
	beyond = api.MaxRune + 1
	mark   = "\uFEFF"
)

func row(at, other rune, side api.Side) api.Bracket {
	return api.Bracket{At: at, Other: other, Side: side}
}

// pairs is the rows of pairs, each told by what opens and what closes.
func pairs(numbers ...rune) []api.Bracket {
	var out []api.Bracket
	for pair := range slices.Chunk(numbers, 2) {
		out = append(out, row(pair[0], pair[1], api.Opens), row(pair[1], pair[0], api.Closes))
	}
	return out
}

// twins is rows of twins, each told by its At and its As.
func twins(numbers ...rune) []api.Twin {
	var out []api.Twin
	for pair := range slices.Chunk(numbers, 2) {
		out = append(out, api.Twin{At: pair[0], As: pair[1]})
	}
	return out
}

// refusalOf is the place and the error that New must answer, found by holding each row against all others.
func refusalOf(rows []api.Bracket) (int, api.Errno) {
	inside := func(r rune) bool { return 0 <= r && r <= 0x10FFFF }
	for i, b := range rows {
		if !inside(b.At) || !inside(b.Other) || b.At == b.Other || b.Side != api.Opens && b.Side != api.Closes {
			return i, api.ErrBracket
		}
		for _, ahead := range rows[:i] {
			if ahead.At == b.At {
				return i, api.ErrTwice
			}
		}
	}
	for i, b := range rows {
		if !slices.Contains(rows, row(b.Other, b.At, 3-b.Side)) {
			return i, api.ErrLone
		}
	}
	return 0, api.OK
}

// rowOf is the row of that At, by a look through them.
func rowOf(rows []api.Bracket, at rune) (api.Bracket, bool) {
	for _, b := range rows {
		if b.At == at {
			return b, true
		}
	}
	return api.Bracket{}, false
}

func counts(rows []api.Bracket, t api.Twin) bool {
	_, is := rowOf(rows, t.At)
	return is
}

// twinOf is the twin of r, by a look through the twin rows.
func twinOf(rows []api.Bracket, l []api.Twin, r rune) rune {
	for _, t := range l {
		if t.At == r && counts(rows, t) {
			return t.As
		}
	}
	return r
}

// refusedTwin is the place and the error that Twins must answer, word by word.
func refusedTwin(rows []api.Bracket, l []api.Twin) (int, api.Errno) {
	for i, t := range l {
		if !counts(rows, t) {
			continue
		}
		at, _ := rowOf(rows, t.At)
		as, is := rowOf(rows, t.As)
		moves := slices.ContainsFunc(l, func(u api.Twin) bool { return counts(rows, u) && u.At == t.As })
		if !is || as.Side != at.Side || moves || twinOf(rows, l, at.Other) != as.Other {
			return i, api.ErrTwin
		}
	}
	return 0, api.OK
}

// bookOf is the book of rows that go together, with twins that may be.
func bookOf(t *testing.T, rows []api.Bracket, l ...api.Twin) *brackets.Book {
	t.Helper()
	b, at, why := brackets.New(rows...)
	if b == nil || at != 0 || why != api.OK {
		t.Fatalf("New of %X = %v, %d, %d", rows, b, at, why)
	}
	if l == nil {
		return b
	}
	b, at, why = b.Twins(l...)
	if b == nil || at != 0 || why != api.OK {
		t.Fatalf("Twins of %X by %X = %v, %d, %d", rows, l, b, at, why)
	}
	return b
}

// isNoBook holds New of the rows against that error.
func isNoBook(t *testing.T, rows []api.Bracket, at int, why api.Errno) {
	t.Helper()
	b, gotAt, got := brackets.New(rows...)
	if b != nil || gotAt != at || got != why {
		t.Fatalf("New of %X = %v, %d, %d, not %d, %d", rows, b, gotAt, got, at, why)
	}
}

// isNoTwins holds Twins of l against that place and ErrTwin.
func isNoTwins(t *testing.T, b *brackets.Book, l []api.Twin, at int) {
	t.Helper()
	c, gotAt, why := b.Twins(l...)
	if c != nil || gotAt != at || why != api.ErrTwin {
		t.Fatalf("Twins by %X = %v, %d, %d, not %d", l, c, gotAt, why, at)
	}
}

// parsed is the book of a text that is one.
func parsed(t *testing.T, text string) *brackets.Book {
	t.Helper()
	b, err := brackets.Parse("f", text)
	if b == nil || err != nil {
		t.Fatalf("Parse of %q = %v, %v", text, b, err)
	}
	return b
}

// isRefused holds Parse of text against that fault.
func isRefused(t *testing.T, file, text string, line int, why api.Errno) {
	t.Helper()
	b, err := brackets.Parse(file, text)
	var f *api.Fault
	if b != nil || !errors.As(err, &f) || *f != (api.Fault{File: file, Line: line, Code: why}) || !errors.Is(err, why) {
		t.Fatalf("Parse of %q = %v, %v, not the line %d: %d", text, b, err, line, why)
	}
}

func byAt(rows []api.Bracket) []api.Bracket {
	return slices.SortedFunc(slices.Values(rows), func(a, b api.Bracket) int { return int(a.At) - int(b.At) })
}

// writtenOf is what Write must answer of the rows.
func writtenOf(rows []api.Bracket) string {
	out := ""
	for _, b := range byAt(rows) {
		out += fmt.Sprintf("%04X; %04X; %s\n", b.At, b.Other, map[api.Side]string{api.Opens: "o", api.Closes: "c"}[b.Side])
	}
	return out
}

// numbersOf is numbers to look up: each one of the rows and the twins, what stands beside it, and edges.
func numbersOf(rows []api.Bracket, l []api.Twin) []rune {
	out := []rune{-1 << 31, -2, -1, 0, 1, 0x41, 0xD800, 0xFFFC, 0xFFFD, 0xFFFE, api.MaxRune, beyond, beyond + 1, 1<<31 - 1}
	for _, b := range rows {
		out = append(out, b.At-1, b.At, b.At+1)
	}
	for _, t := range l {
		out = append(out, t.At, t.As)
	}
	slices.Sort(out)
	return slices.Compact(out)
}

// isBook holds all that b tells against a look through the rows and the twins.
func isBook(t *testing.T, b *brackets.Book, rows []api.Bracket, l ...api.Twin) {
	t.Helper()
	counted := func(r rune) rune {
		if r < 0 || r > 0x10FFFF {
			return 0xFFFD
		}
		return r
	}
	numbers := numbersOf(rows, l)
	for _, r := range numbers {
		want, _ := rowOf(rows, counted(r))
		if other, side := b.Bracket(r); other != want.Other || side != want.Side {
			t.Fatalf("%X: Bracket of %X = %X, %d", rows, r, other, side)
		}
		if got := b.Twin(r); got != twinOf(rows, l, counted(r)) {
			t.Fatalf("%X by %X: Twin of %X = %X", rows, l, r, got)
		}
		for _, second := range numbers {
			closes, _ := rowOf(rows, counted(second))
			matches := want.Side == api.Opens && closes.Side == api.Closes && twinOf(rows, l, want.Other) == twinOf(rows, l, closes.At)
			if got := b.Matches(r, second); got != matches {
				t.Fatalf("%X by %X: Matches of %X and %X = %v", rows, l, r, second, got)
			}
		}
	}
	if got := slices.Collect(b.Rows()); !slices.Equal(got, byAt(rows)) {
		t.Fatalf("Rows of %X tells %X", rows, got)
	}
	if got := b.Write(); got != writtenOf(rows) {
		t.Fatalf("Write of %X = %q", rows, got)
	}
}

// text is the lines, an end between two.
func text(lines ...string) string { return strings.Join(lines, "\n") }

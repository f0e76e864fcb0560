package brackets_test

import (
	"slices"
	"testing"

	"furrow/api"
	"furrow/brackets"
	"furrow/trial"
)

// 8.1: the chapter's examples.
func TestNew(t *testing.T) {
	b := bookOf(t, []api.Bracket{row(0x28, 0x29, api.Opens), row(0x29, 0x28, api.Closes)})
	for r, want := range map[rune]api.Bracket{0x28: row(0, 0x29, api.Opens), 0x29: row(0, 0x28, api.Closes), 0x41: {}} {
		if other, side := b.Bracket(r); other != want.Other || side != want.Side {
			t.Errorf("Bracket of %X = %X, %d", r, other, side)
		}
	}
	isNoBook(t, []api.Bracket{row(0x28, 0x29, api.Opens)}, 0, api.ErrLone)
	isNoBook(t, []api.Bracket{row(0x28, 0x28, api.Opens)}, 0, api.ErrBracket)
	isNoBook(t, []api.Bracket{row(0x28, 0x29, api.Opens), row(0x28, 0x29, api.Opens)}, 1, api.ErrTwice)
}

// 8.1: no rows are a book.
func TestNewOfNothing(t *testing.T) {
	isBook(t, bookOf(t, nil), nil)
	isBook(t, bookOf(t, []api.Bracket{}), nil)
}

// 8.1: rows that may be by themselves, at the edges, and such as may not.
func TestNewNumbers(t *testing.T) {
	for _, rows := range [][]api.Bracket{
		pairs(0, 1), pairs(1, 0), pairs(0, api.MaxRune), pairs(api.MaxRune, 0), pairs(0xD800, 0xDFFF), pairs(api.Replaced, 0xFFFE), pairs(0x3009, 0x3008),
	} {
		isBook(t, bookOf(t, rows), rows)
		isBook(t, bookOf(t, trial.Reversed(rows)), rows)
		isNoBook(t, rows[:1], 0, api.ErrLone)
		isNoBook(t, rows[1:], 0, api.ErrLone)
	}
	good := pairs('(', ')')
	for _, bad := range []api.Bracket{
		row(-1, 1, api.Opens), row(1, -1, api.Opens), row(-1, -2, api.Closes), row(-1<<31, 1, api.Opens), row(1, -1<<31, api.Closes),
		row(beyond, 1, api.Opens), row(1, beyond, api.Opens), row(beyond, beyond+1, api.Closes), row(1<<31-1, 1, api.Opens), row(1, 1<<31-1, api.Closes),
		row(0, 0, api.Opens), row('x', 'x', api.Closes), row(api.MaxRune, api.MaxRune, api.Opens), row(-1, -1, api.Opens), row(beyond, beyond, api.Opens),
		row(1, 2, api.None), row(1, 2, 3), row(1, 2, 255), {},
	} {
		isNoBook(t, []api.Bracket{bad}, 0, api.ErrBracket)
		isNoBook(t, []api.Bracket{bad, row(bad.Other, bad.At, 3-bad.Side)}, 0, api.ErrBracket)
		isNoBook(t, append(slices.Clone(good), bad), 2, api.ErrBracket)
		isNoBook(t, append([]api.Bracket{bad}, good...), 0, api.ErrBracket)
		isNoBook(t, []api.Bracket{good[0], bad, good[1]}, 1, api.ErrBracket)
	}
}

// 8.1: what may not be and what was told twice, in either order; one that is both may not be.
func TestNewWhicheverStandsFirst(t *testing.T) {
	good, lone := pairs('(', ')'), row('x', 'y', api.Opens)
	bad, again := row('z', 'z', api.Opens), row(')', 'w', api.Closes)
	for _, c := range []struct {
		rows []api.Bracket
		at   int
		why  api.Errno
	}{
		{[]api.Bracket{good[0], good[1], again, bad}, 2, api.ErrTwice},
		{[]api.Bracket{good[0], good[1], bad, again}, 2, api.ErrBracket},
		{[]api.Bracket{good[0], bad, good[1], again}, 1, api.ErrBracket},
		{[]api.Bracket{lone, good[0], good[1], again, bad}, 3, api.ErrTwice},
		{[]api.Bracket{lone, good[0], good[1], bad}, 3, api.ErrBracket},
		{[]api.Bracket{lone, lone, bad}, 1, api.ErrTwice},
		{[]api.Bracket{good[0], good[1], row('(', '(', api.Opens)}, 2, api.ErrBracket},
		{[]api.Bracket{good[0], good[1], row('(', ')', api.None)}, 2, api.ErrBracket},
		{[]api.Bracket{good[0], good[1], row('(', -1, api.Opens)}, 2, api.ErrBracket},
		{[]api.Bracket{good[0], good[1], good[0]}, 2, api.ErrTwice},
		{[]api.Bracket{good[0], good[0], good[1]}, 1, api.ErrTwice},
		{[]api.Bracket{good[0], good[1], row('(', ')', api.Closes)}, 2, api.ErrTwice},
		{[]api.Bracket{bad, bad}, 0, api.ErrBracket},
	} {
		isNoBook(t, c.rows, c.at, c.why)
	}
}

// 8.1: rows whose other one is not there, has another Other, or the same side; of two the first is told.
func TestNewLone(t *testing.T) {
	good := pairs('(', ')', '[', ']')
	for _, c := range []struct {
		rows []api.Bracket
		at   int
	}{
		{[]api.Bracket{row('a', 'b', api.Opens)}, 0},
		{[]api.Bracket{row('a', 'b', api.Closes)}, 0},
		{[]api.Bracket{row('a', 'b', api.Opens), row('b', 'a', api.Opens)}, 0},
		{[]api.Bracket{row('a', 'b', api.Closes), row('b', 'a', api.Closes)}, 0},
		{[]api.Bracket{row('a', 'b', api.Opens), row('b', 'c', api.Closes), row('c', 'b', api.Opens)}, 0},
		{[]api.Bracket{row('b', 'c', api.Closes), row('c', 'b', api.Opens), row('a', 'b', api.Opens)}, 2},
		{[]api.Bracket{row('a', 'b', api.Opens), row('b', 'c', api.Closes), row('c', 'a', api.Opens)}, 0},
		{[]api.Bracket{row('z', 'y', api.Opens), row('a', 'b', api.Opens)}, 0},
		{[]api.Bracket{row('(', ')', api.Opens), row('z', 'y', api.Opens), row(')', '(', api.Closes), row('a', 'b', api.Opens)}, 1},
		{[]api.Bracket{row(0, 'b', api.Opens)}, 0},
		{[]api.Bracket{row('b', 0, api.Closes)}, 0},
		{append(slices.Clone(good), row('a', '(', api.Closes)), 4},
		{append(slices.Clone(good), row('a', ')', api.Opens)), 4},
		{slices.Delete(slices.Clone(good), 1, 2), 0},
		{slices.Delete(slices.Clone(good), 2, 3), 2},
	} {
		isNoBook(t, c.rows, c.at, api.ErrLone)
	}
}

// someRows are rows of which lists are made.
func someRows() []api.Bracket {
	return []api.Bracket{
		row('(', ')', api.Opens), row(')', '(', api.Closes), row(0, api.MaxRune, api.Closes), row(api.MaxRune, 0, api.Opens),
		row('(', ')', api.Closes), row(')', '(', api.Opens), row('(', 0, api.Opens), row(0, '(', api.Closes), row(api.Replaced, ')', api.Opens), row(')', api.Replaced, api.Closes),
		row('(', '(', api.Opens), row('(', ')', api.None), row(')', '(', 3), row(-1, '(', api.Closes), row(0, beyond, api.Opens),
	}
}

// 8.1, 8.4, 8.5: all lists of up to four rows, and of five and six of fewer.
func TestNewOfAllLists(t *testing.T) {
	good := 0
	try := func(letters []api.Bracket, size int) {
		for rows := range trial.Words(letters, size) {
			if at, why := refusalOf(rows); why != api.OK {
				isNoBook(t, rows, at, why)
				continue
			}
			isBook(t, bookOf(t, rows), rows)
			good++
		}
	}
	for size := range 5 {
		try(someRows(), size)
	}
	try(someRows()[:8], 5)
	try(append(pairs('(', ')', '[', ']'), row('{', '}', api.Opens), row('}', '{', api.Closes)), 6)
	if good < 700 {
		t.Errorf("only %d lists are books", good)
	}
}

// 8.8: the same rows in another order.
func TestAnyOrder(t *testing.T) {
	rows := pairs(0x3009, 0x3008, '[', ']', 0, api.MaxRune, '(', ')', 0x2329, 0x232A)
	l := twins(0x2329, '(', 0x232A, ')')
	want := bookOf(t, rows, l...)
	next := trial.Numbers()
	for range 500 {
		mixed := slices.Clone(rows)
		for i := range mixed {
			j := int(next()>>8) % (i + 1)
			mixed[i], mixed[j] = mixed[j], mixed[i]
		}
		b := bookOf(t, mixed)
		isBook(t, b, rows)
		twinned := bookOf(t, mixed, trial.Reversed(l)...)
		isBook(t, twinned, rows, l...)
		lines := ""
		for _, r := range mixed {
			lines += writtenOf([]api.Bracket{r})
		}
		isBook(t, parsed(t, lines), rows)
		if b.Write() != want.Write() {
			t.Fatalf("%X is written as %q", mixed, b.Write())
		}
	}
}

// 8.1: a book is made of its rows at once: what is done to the list behind it does not count.
func TestNewKeepsNothing(t *testing.T) {
	rows := pairs('(', ')', '[', ']')
	want := slices.Clone(rows)
	b, _, _ := brackets.New(rows...)
	clear(rows)
	isBook(t, b, want)
}

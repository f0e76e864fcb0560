package brackets_test

import (
	"iter"
	"slices"
	"strings"
	"testing"

	"furrow/api"
	"furrow/brackets"
	"furrow/trial"
)

// P0.1, 8.4, 8.5: a nil book, and one that no call made, have nothing.
func TestNilBook(t *testing.T) {
	refused, _, _ := brackets.New(row('(', ')', api.Opens))
	unread, _ := brackets.Parse("f", "x")
	var none *brackets.Book
	for _, b := range []*brackets.Book{none, refused, unread, {}, new(brackets.Book)} {
		for _, r := range numbersOf(pairs('(', ')'), nil) {
			if other, side := b.Bracket(r); other != 0 || side != api.None || b.Twin(r) != r {
				t.Errorf("%X has %X, %d, the twin %X", r, other, side, b.Twin(r))
			}
			if b.Matches(r, r) || b.Matches(r, ')') || b.Matches('(', r) {
				t.Errorf("%X matches", r)
			}
		}
		for r := range b.Rows() {
			t.Errorf("Rows tells %X", r)
		}
		if got := b.Write(); got != "" {
			t.Errorf("Write = %q", got)
		}
	}
}

// P0.1, 8.3 to 8.5: a book of no rows is not as a nil one.
func TestBookOfNothing(t *testing.T) {
	for _, b := range []*brackets.Book{bookOf(t, nil), parsed(t, ""), parsed(t, "# n\n")} {
		isBook(t, b, nil)
		if b.Twin(-4) != api.Replaced || b.Twin(beyond) != api.Replaced {
			t.Errorf("Twin = %X, %X", b.Twin(-4), b.Twin(beyond))
		}
		if c, at, why := b.Twins(twins('(', ')')...); c == nil || at != 0 || why != api.OK {
			t.Errorf("Twins = %v, %d, %d", c, at, why)
		}
	}
}

// P0.1, 8.5: walks that are left early, gone over again, and one within the other.
func TestRowsLeftEarly(t *testing.T) {
	for _, b := range []*brackets.Book{
		bookOf(t, angles()), bookOf(t, pairs('z', 'y', 0, api.MaxRune, 'b', 'a')), bookOf(t, angles(), twins(0x2329, 0x3008, 0x232A, 0x3009)...),
	} {
		if wrong := trial.LeaveEarly(trial.Beside(b.Rows())); wrong != "" {
			t.Error(wrong)
		}
	}
}

// P0.1, 8.5: two walks at once, of one book and of two.
func TestRowsAtOnce(t *testing.T) {
	b, other := bookOf(t, angles()), bookOf(t, pairs('z', 'y'))
	next, stop := iter.Pull(b.Rows())
	nextToo, stopToo := iter.Pull(b.Rows())
	nextOther, stopOther := iter.Pull(other.Rows())
	defer stop()
	defer stopToo()
	defer stopOther()
	rows, otherRows := byAt(angles()), byAt(pairs('z', 'y'))
	next()
	for i := range len(rows) + 1 {
		for _, c := range []struct {
			next func() (api.Bracket, bool)
			want []api.Bracket
			at   int
		}{{next, rows, i + 1}, {nextToo, rows, i}, {nextOther, otherRows, i}} {
			r, more := c.next()
			if more != (c.at < len(c.want)) || more && r != c.want[c.at] {
				t.Fatalf("%X, %v at %d of %X", r, more, c.at, c.want)
			}
		}
	}
}

// P0.1: what is handed in is not changed, spare room included, and not kept.
func TestListsAreLeft(t *testing.T) {
	rows := append(angles(), pairs('z', 'y')...)
	before := slices.Clone(rows)
	b, _, _ := brackets.New(rows[:6]...)
	brackets.New(rows[:7]...)
	if !slices.Equal(rows, before) {
		t.Errorf("New changed the rows to %X", rows)
	}
	l := twins(0x2329, 0x3008, 0x232A, 0x3009, 'a', 'b', '(', '(')
	beforeTwins := slices.Clone(l)
	c, _, _ := b.Twins(l[:2]...)
	b.Twins(l...)
	if !slices.Equal(l, beforeTwins) {
		t.Errorf("Twins changed its rows to %X", l)
	}
	walk := c.Rows()
	clear(rows)
	clear(l)
	isBook(t, b, angles())
	isBook(t, c, angles(), beforeTwins[:2]...)
	if got := slices.Collect(walk); !slices.Equal(got, byAt(angles())) {
		t.Errorf("Rows tells %X", got)
	}
}

// P0.1: what a book tells hangs on its own rows, whatever else is made, and is the same each time.
func TestBooksAreApart(t *testing.T) {
	b := bookOf(t, angles())
	for _, s := range []string{"", "0028;0029;c\n0029;0028;o", "x", "0028;0029;o"} {
		brackets.Parse("f", s)
		bookOf(t, pairs('(', 'x', ')', 'y'))
		b.Twins(twins(0x2329, 0x3008, 0x232A, 0x3009)...)
		isBook(t, b, angles())
		isBook(t, b, angles())
	}
}

// P0.1: calls end with any texts, and with any texts in the place of a field.
func TestAnyBytes(t *testing.T) {
	for s := range trial.Texts() {
		if _, line, why := faultOf(s); why != api.OK {
			isRefused(t, s, s, line, why)
		} else {
			parsed(t, s)
		}
	}
	for _, s := range trial.LongTexts() {
		for _, around := range [][2]string{{"0028;0029;", ""}, {"0028;", ";o"}, {"", ";0029;o"}, {"0028;0029;o\n0029;0028;c\n", ""}, {"0028;0029;o\n0029;0028;c #", ""}} {
			isParsedOrNot(t, around[0]+s+around[1])
		}
	}
}

// P0.1: many rows, in two orders; the last one is not passed over.
func TestManyRows(t *testing.T) {
	const many = 1 << 18
	var rows []api.Bracket
	var l []api.Twin
	for i := range rune(many) {
		rows = append(rows, row(i*2, i*2+1, api.Opens), row(i*2+1, i*2, api.Closes))
		if i > 0 {
			l = append(l, twins(i*2, 0, i*2+1, 1)...)
		}
	}
	b, c := bookOf(t, rows, l...), bookOf(t, trial.Reversed(rows))
	if !slices.Equal(slices.Collect(b.Rows()), rows) || !slices.Equal(slices.Collect(c.Rows()), rows) {
		t.Error("Rows tells something else")
	}
	wrote := b.Write()
	if wrote != c.Write() || strings.Count(wrote, "\n") != 2*many {
		t.Error("Write is something else")
	}
	if back := parsed(t, wrote); !slices.Equal(slices.Collect(back.Rows()), rows) {
		t.Error("Parse has something else")
	}
	if b.Twin(2*many-1) != 1 || !b.Matches(2*many-2, 3) || c.Matches(2*many-2, 3) {
		t.Errorf("Twin = %X", b.Twin(2*many-1))
	}
	isNoBook(t, rows[:2*many-1], 2*many-2, api.ErrLone)
	isNoBook(t, append(rows, rows[0]), 2*many, api.ErrTwice)
	isNoTwins(t, c, l[:len(l)-1], len(l)-2)
	isRefused(t, "f", wrote+"0000; 0001; o", 2*many+1, api.ErrTwice)
}

// The numbers that layer 8 owns.
func TestErrors(t *testing.T) {
	if api.ErrBracket != 80 || api.ErrTwice != 81 || api.ErrLone != 82 || api.ErrTwin != 83 {
		t.Error(int(api.ErrBracket), int(api.ErrTwice), int(api.ErrLone), int(api.ErrTwin))
	}
}

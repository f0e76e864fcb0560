package brackets_test

import (
	"slices"
	"testing"

	"furrow/api"
	"furrow/brackets"
	"furrow/trial"
)

// angles are the pairs of the chapter's examples.
func angles() []api.Bracket {
	return pairs('(', ')', 0x2329, 0x232A, 0x3008, 0x3009)
}

// 8.3, 8.4: the chapter's examples.
func TestTwins(t *testing.T) {
	b := bookOf(t, angles(), twins(0x2329, 0x3008, 0x232A, 0x3009)...)
	if b.Twin(0x2329) != 0x3008 || !b.Matches(0x2329, 0x3009) || !b.Matches(0x3008, 0x232A) {
		t.Errorf("%X, %v, %v", b.Twin(0x2329), b.Matches(0x2329, 0x3009), b.Matches(0x3008, 0x232A))
	}
	plain := bookOf(t, angles())
	isNoTwins(t, plain, twins(0x2329, 0x3008), 0)
	isBook(t, bookOf(t, angles(), twins(0x41, 0x42)...), angles())
}

// 8.3: of a nil book, and of one that no call made.
func TestTwinsOfNil(t *testing.T) {
	refused, _, _ := brackets.New(row('(', '(', api.Opens))
	for _, b := range []*brackets.Book{nil, refused, {}} {
		for _, l := range [][]api.Twin{nil, {}, twins('(', '['), twins('a', 'b'), twins(-1, beyond)} {
			if c, at, why := b.Twins(l...); c != nil || at != 0 || why != api.ErrNil {
				t.Errorf("Twins of nil by %X = %v, %d, %d", l, c, at, why)
			}
		}
	}
}

// 8.3: of no twin rows, and of such as do not count.
func TestTwinsThatDoNotCount(t *testing.T) {
	for _, rows := range [][]api.Bracket{nil, angles(), pairs(api.Replaced, 'x'), pairs(0, api.MaxRune)} {
		b := bookOf(t, rows)
		for _, l := range [][]api.Twin{nil, {}, twins('a', 'b'), twins('a', 0x2329, 'b', 0x3008, 'a', 'a'), twins(-1, 0x3008, beyond, -1, 1<<31-1, 'a', -1<<31, 0)} {
			c, at, why := b.Twins(l...)
			if c == nil || at != 0 || why != api.OK {
				t.Fatalf("Twins of %X by %X = %v, %d, %d", rows, l, c, at, why)
			}
			isBook(t, c, rows, l...)
		}
	}
}

// 8.3: twins that may not be, each for one reason alone, wherever they stand.
func TestTwinsThatMayNotBe(t *testing.T) {
	rows := pairs('(', ')', 0x2329, 0x232A, 0x3008, 0x3009, api.Replaced, 0xFFFC)
	b := bookOf(t, rows)
	for _, c := range []struct {
		why string
		l   []api.Twin
		at  int
	}{
		{"no bracket", twins(0x2329, 'a'), 0},
		{"no bracket of the other one's", twins(0x2329, 0x3008, 0x232A, 'a'), 0},
		{"below 0, which is not as FFFD here", twins('(', -1, ')', 0xFFFC), 0},
		{"above the last, which is not as FFFD here", twins('(', beyond, ')', 0xFFFC), 0},
		{"of the other side", twins(0x2329, 0x3009, 0x232A, 0x3008), 0},
		{"its own twin", twins(0x2329, 0x2329), 0},
		{"its own twin, both halves", twins(0x2329, 0x2329, 0x232A, 0x232A), 0},
		{"one half alone", twins(0x2329, 0x3008), 0},
		{"the other half alone", twins(0x232A, 0x3009), 0},
		{"halves that lead apart", twins(0x2329, 0x3008, 0x232A, ')'), 0},
		{"a twin that has a twin", twins(0x2329, 0x3008, 0x232A, 0x3009, 0x3008, '(', 0x3009, ')'), 0},
		{"a twin that has a twin, told ahead", twins(0x3008, '(', 0x3009, ')', 0x2329, 0x3008, 0x232A, 0x3009), 2},
		{"round and round", twins(0x2329, 0x3008, 0x232A, 0x3009, 0x3008, 0x2329, 0x3009, 0x232A), 0},
		{"told again otherwise", twins(0x2329, 0x3008, 0x232A, 0x3009, 0x2329, '('), 2},
		{"told otherwise ahead", twins(0x2329, '(', 0x2329, 0x3008, 0x232A, 0x3009), 0},
		{"the second pair", twins(0x2329, 0x3008, 0x232A, 0x3009, '(', 0x3009, ')', 0x3008), 2},
	} {
		isNoTwins(t, b, c.l, c.at)
		behind := append(twins('a', 'b', -1, '(', 'c', 0x3008), c.l...)
		isNoTwins(t, b, behind, c.at+3)
		if at, why := refusedTwin(rows, c.l); at != c.at || why != api.ErrTwin {
			t.Errorf("%s: the model says %d, %d", c.why, at, why)
		}
	}
}

// 8.3: two rows of one At that say the same, twins of two that are one, rows in any order.
func TestTwinsThatMayBe(t *testing.T) {
	rows := pairs('(', ')', 0x2329, 0x232A, 0x3008, 0x3009, 0, api.MaxRune, api.Replaced, 0xFFFC)
	for _, l := range [][]api.Twin{
		twins(0x2329, 0x3008, 0x232A, 0x3009),
		twins(0x232A, 0x3009, 0x2329, 0x3008),
		twins(0x2329, 0x3008, 0x2329, 0x3008, 0x232A, 0x3009, 'a', 'b', 0x232A, 0x3009),
		twins(0x2329, 0x3008, '(', 0x3008, 0x232A, 0x3009, ')', 0x3009),
		twins(0x2329, 0, 0x232A, api.MaxRune),
		twins(0, '(', api.MaxRune, ')'),
		twins(api.Replaced, '(', 0xFFFC, ')'),
		twins('(', api.Replaced, ')', 0xFFFC, -1, 'x', 0x2329, 0x3008, 0x232A, 0x3009),
	} {
		isBook(t, bookOf(t, rows, l...), rows, l...)
		isBook(t, bookOf(t, rows, trial.Reversed(l)...), rows, l...)
	}
}

// 8.3: twins that a book has of its own do not count, and it keeps them.
func TestTwinsOfTwins(t *testing.T) {
	plain := bookOf(t, angles())
	first := twins(0x2329, 0x3008, 0x232A, 0x3009)
	second := twins(0x3008, '(', 0x3009, ')')
	b := bookOf(t, angles(), first...)
	c, at, why := b.Twins(second...)
	if c == nil || at != 0 || why != api.OK {
		t.Fatalf("Twins = %v, %d, %d", c, at, why)
	}
	isBook(t, c, angles(), second...)
	none, _, _ := c.Twins()
	isBook(t, none, angles())
	isNoTwins(t, b, first[1:], 0)
	isNoTwins(t, c, twins(0x2329, 'a'), 0)
	isBook(t, plain, angles())
	isBook(t, b, angles(), first...)
	isBook(t, c, angles(), second...)
}

// someTwins are twin rows of which lists are made.
func someTwins() []api.Twin {
	return twins(
		0x2329, 0x3008, 0x232A, 0x3009, 0x3008, 0x2329, 0x3009, 0x232A, '(', 0x3008, ')', 0x3009, '(', 0x2329,
		'(', '(', '(', ')', 0x2329, 'a', 'a', 0x3008, -1, 0x3008, '(', -1, api.Replaced, '(', 0xFFFC, ')',
	)
}

// 8.3, 8.4, 8.7: all lists of up to four twin rows.
func TestTwinsOfAllLists(t *testing.T) {
	good := 0
	rows := pairs('(', ')', 0x2329, 0x232A, 0x3008, 0x3009, api.Replaced, 0xFFFC)
	b := bookOf(t, rows)
	for size := range 5 {
		for l := range trial.Words(someTwins(), size) {
			if at, why := refusedTwin(rows, l); why != api.OK {
				isNoTwins(t, b, l, at)
				continue
			}
			c := bookOf(t, rows, l...)
			isBook(t, c, rows, l...)
			isInPairs(t, c)
			good++
		}
	}
	if good < 300 {
		t.Errorf("only %d lists may be", good)
	}
	isBook(t, b, rows)
}

// isInPairs asks 8.7 of b.
func isInPairs(t *testing.T, b *brackets.Book) {
	t.Helper()
	rows := slices.Collect(b.Rows())
	for _, r := range rows {
		other, side := b.Bracket(r.At)
		back, otherSide := b.Bracket(other)
		if back != r.At || side == otherSide || side == api.None || otherSide == api.None {
			t.Fatalf("%X leads to %X, %d, and that to %X, %d", r.At, other, side, back, otherSide)
		}
		twin := b.Twin(r.At)
		if _, twinSide := b.Bracket(twin); twinSide != side || b.Twin(twin) != twin {
			t.Fatalf("%X has the twin %X, %d, and that %X", r.At, twin, twinSide, b.Twin(twin))
		}
		if b.Matches(r.At, other) != (side == api.Opens) || b.Matches(other, r.At) != (side == api.Closes) {
			t.Fatalf("%X and %X do not match as they must", r.At, other)
		}
		for _, none := range []rune{'a', 0xD800, api.MaxRune} {
			if b.Matches(r.At, none) || b.Matches(none, r.At) || b.Matches(none, none) || b.Twin(none) != none {
				t.Fatalf("%X, which is no bracket, matches %X, or has a twin", none, r.At)
			}
		}
	}
}

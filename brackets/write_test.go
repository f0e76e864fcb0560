package brackets_test

import (
	"slices"
	"testing"

	"furrow/api"
	"furrow/brackets"
	"furrow/trial"
)

// 8.5: rows rise, whatever order they came in; digits are as few as there may be.
func TestWrite(t *testing.T) {
	for _, c := range []struct {
		rows []api.Bracket
		want string
	}{
		{nil, ""},
		{pairs('(', ')'), "0028; 0029; o\n0029; 0028; c\n"},
		{pairs(')', '('), "0028; 0029; c\n0029; 0028; o\n"},
		{pairs('[', ']', '(', ')'), "0028; 0029; o\n0029; 0028; c\n005B; 005D; o\n005D; 005B; c\n"},
		{pairs(api.MaxRune, 0), "0000; 10FFFF; c\n10FFFF; 0000; o\n"},
		{pairs(0x1F600, 0xFFFF, 0xD800, 0xAB), "00AB; D800; c\nD800; 00AB; o\nFFFF; 1F600; c\n1F600; FFFF; o\n"},
	} {
		if got := bookOf(t, c.rows).Write(); got != c.want {
			t.Errorf("%X: Write = %q", c.rows, got)
		}
	}
}

// 8.5: twins are not written, and are no rows.
func TestWriteTwins(t *testing.T) {
	plain, twinned := bookOf(t, angles()), bookOf(t, angles(), twins(0x2329, 0x3008, 0x232A, 0x3009)...)
	if plain.Write() != twinned.Write() || !slices.Equal(slices.Collect(plain.Rows()), slices.Collect(twinned.Rows())) {
		t.Errorf("%q and %q", plain.Write(), twinned.Write())
	}
	if got := parsed(t, twinned.Write()).Twin(0x2329); got != 0x2329 {
		t.Errorf("Twin = %X", got)
	}
}

// isThereAndBack asks 8.6 of b.
func isThereAndBack(t *testing.T, b *brackets.Book) {
	t.Helper()
	wrote, rows := b.Write(), slices.Collect(b.Rows())
	back := parsed(t, wrote)
	isBook(t, back, rows)
	if again := back.Write(); again != wrote {
		t.Fatalf("%q is written again as %q", wrote, again)
	}
	fromRows := bookOf(t, rows)
	if again := fromRows.Write(); again != wrote {
		t.Fatalf("%q is written of its rows as %q", wrote, again)
	}
}

// 8.6
func TestThereAndBack(t *testing.T) {
	isThereAndBack(t, bookOf(t, angles(), twins(0x2329, 0x3008, 0x232A, 0x3009)...))
	isThereAndBack(t, bookOf(t, pairs(0, api.MaxRune, api.Replaced, 0xFFFF, 0xDFFF, 0x10000)))
	for _, s := range nothings() {
		isThereAndBack(t, parsed(t, s))
	}
	tried := 0
	for size := range 5 {
		for word := range trial.Words(someLines()[:11], size) {
			b, err := brackets.Parse("f", text(word...))
			if err != nil {
				continue
			}
			isThereAndBack(t, b)
			tried++
		}
	}
	if tried < 300 {
		t.Errorf("only %d texts were tried", tried)
	}
}

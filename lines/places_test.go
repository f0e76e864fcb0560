package lines_test

import (
	"math"
	"strings"
	"testing"
	"unicode/utf8"

	"furrow/api"
	"furrow/lines"
)

// spot is a line and a column.
type spot struct{ line, column int }

// whereOf is Where's answer, by counting the ends, and in the line the characters, that end at or ahead of the place.
func whereOf(text string, at int) spot {
	begin := 0
	if strings.HasPrefix(text, mark) {
		begin = len(mark)
	}
	got := spot{1, 1}
	for i := range len(text) {
		if text[i] == '\n' && i+1 <= at {
			got.line++
			begin = i + 1
		}
	}
	line, _, ended := strings.Cut(text[begin:], "\n")
	if ended {
		line = strings.TrimSuffix(line, "\r")
	}
	for end := begin; line != ""; {
		_, size := utf8.DecodeRuneInString(line)
		end += size
		if end <= at {
			got.column++
		}
		line = line[size:]
	}
	return got
}

// placesOf is each line and column that there is, with its place.
func placesOf(text string) map[spot]int {
	out := map[spot]int{}
	at := 0
	if strings.HasPrefix(text, mark) {
		at = len(mark)
	}
	pieces := strings.Split(text[at:], "\n")
	for no, piece := range pieces {
		line := piece
		if no < len(pieces)-1 {
			line = strings.TrimSuffix(line, "\r")
		}
		column := 1
		for size := 0; size < len(line); column++ {
			out[spot{no + 1, column}] = at + size
			_, width := utf8.DecodeRuneInString(line[size:])
			size += width
		}
		out[spot{no + 1, column}] = at + len(line)
		at += len(piece) + 1
	}
	return out
}

func where(text string, at int) spot {
	line, column := lines.Where(text, at)
	return spot{line, column}
}

// P3.7
func TestWhere(t *testing.T) {
	for _, c := range []struct {
		text string
		want []spot // of the places from 0 to the text's length
	}{
		{"é\nb", []spot{{1, 1}, {1, 1}, {1, 2}, {2, 1}, {2, 2}}},
		{"", []spot{{1, 1}}},
		{"\n", []spot{{1, 1}, {2, 1}}},
		{"a\r\nb", []spot{{1, 1}, {1, 2}, {1, 2}, {2, 1}, {2, 2}}},
		{"\r\n\r\n", []spot{{1, 1}, {1, 1}, {2, 1}, {2, 1}, {3, 1}}},
		{"\r\ra", []spot{{1, 1}, {1, 2}, {1, 3}, {1, 4}}},
		{"a\r", []spot{{1, 1}, {1, 2}, {1, 3}}},
		{"\r\r\n", []spot{{1, 1}, {1, 2}, {1, 2}, {2, 1}}},
		{mark, []spot{{1, 1}, {1, 1}, {1, 1}, {1, 1}}},
		{mark + "a\n", []spot{{1, 1}, {1, 1}, {1, 1}, {1, 1}, {1, 2}, {2, 1}}},
		{mark + mark, []spot{{1, 1}, {1, 1}, {1, 1}, {1, 1}, {1, 1}, {1, 1}, {1, 2}}},
		{mark + "\r\n", []spot{{1, 1}, {1, 1}, {1, 1}, {1, 1}, {1, 1}, {2, 1}}},
		{mark[:2] + "a", []spot{{1, 1}, {1, 2}, {1, 3}, {1, 4}}},
		{"\xff\xe2\x82\n", []spot{{1, 1}, {1, 2}, {1, 3}, {1, 4}, {2, 1}}},
		{"\U0001f600" + fffd + "\xc3", []spot{{1, 1}, {1, 1}, {1, 1}, {1, 1}, {1, 2}, {1, 2}, {1, 2}, {1, 3}, {1, 4}}},
		{"\n" + mark + "a", []spot{{1, 1}, {2, 1}, {2, 1}, {2, 1}, {2, 2}, {2, 3}}},
	} {
		if len(c.want) != len(c.text)+1 {
			t.Fatalf("%q has other places", c.text)
		}
		for at, want := range c.want {
			if got := where(c.text, at); got != want {
				t.Errorf("Where of %q at %d = %v, not %v", c.text, at, got, want)
			}
		}
	}
}

// P3.7: places that are none.
func TestWhereIsNowhere(t *testing.T) {
	for _, text := range []string{"", "a", "a\n", mark, "é\r\n\xff"} {
		for _, at := range []int{-1, -2, math.MinInt, len(text) + 1, len(text) + 2, math.MaxInt} {
			if got := where(text, at); got != (spot{}) {
				t.Errorf("Where of %q at %d = %v", text, at, got)
			}
		}
	}
}

// P3.8
func TestPlace(t *testing.T) {
	for _, c := range []struct {
		text string
		at   spot
		want int
	}{
		{"é\nb", spot{1, 1}, 0}, {"é\nb", spot{1, 2}, 2}, {"é\nb", spot{2, 1}, 3}, {"é\nb", spot{2, 2}, 4},
		{"", spot{1, 1}, 0},
		{"\n", spot{1, 1}, 0}, {"\n", spot{2, 1}, 1},
		{"a\r\n", spot{1, 2}, 1}, {"a\r\n", spot{2, 1}, 3},
		{"a\rb", spot{1, 2}, 1}, {"a\rb", spot{1, 3}, 2}, {"a\rb", spot{1, 4}, 3},
		{"a\r\r\n", spot{1, 3}, 2},
		{mark, spot{1, 1}, 3}, {mark + "a", spot{1, 1}, 3}, {mark + "a", spot{1, 2}, 4},
		{mark + mark, spot{1, 1}, 3}, {mark + mark, spot{1, 2}, 6},
		{mark[:2], spot{1, 1}, 0}, {mark[:2], spot{1, 2}, 1}, {mark[:2], spot{1, 3}, 2},
		{"\xff\xc3\n" + fffd + "b", spot{1, 3}, 2}, {"\xff\xc3\n" + fffd + "b", spot{2, 2}, 6},
	} {
		if got, why := lines.Place(c.text, c.at.line, c.at.column); got != c.want || why != api.OK {
			t.Errorf("Place of %q at %v = %d, %d", c.text, c.at, got, why)
		}
	}
	for _, c := range []struct {
		text string
		at   spot
	}{
		{"é\nb", spot{1, 3}}, {"é\nb", spot{2, 3}}, {"é\nb", spot{3, 1}}, {"é\nb", spot{0, 1}}, {"é\nb", spot{-1, 1}}, {"é\nb", spot{1, 0}}, {"é\nb", spot{1, -1}},
		{"", spot{1, 2}}, {"", spot{2, 1}}, {"", spot{0, 0}}, {"", spot{1, 0}},
		{"a\n", spot{2, 2}}, {"a\n", spot{3, 1}}, {"a\r\n", spot{1, 3}},
		{mark, spot{1, 2}}, {mark, spot{2, 1}}, {mark + "a", spot{1, 3}},
	} {
		if got, why := lines.Place(c.text, c.at.line, c.at.column); got != 0 || why != api.ErrArg {
			t.Errorf("Place of %q at %v = %d, %d", c.text, c.at, got, why)
		}
	}
}

// P3.7, P3.8 and P3.11: all places of many texts.
func TestPlacesOfAll(t *testing.T) {
	far := []int{math.MinInt, math.MinInt + 1, -1, 0, math.MaxInt - 1, math.MaxInt}
	for text := range fileTexts {
		places := placesOf(text)
		last, widest := 0, 0
		for at := range places {
			last, widest = max(last, at.line), max(widest, at.column)
		}
		check := func(line, column int) {
			want, there := places[spot{line, column}]
			wantWhy := api.OK
			if !there {
				wantWhy = api.ErrArg
			}
			if got, why := lines.Place(text, line, column); got != want || why != wantWhy {
				t.Fatalf("Place of %q at %d, %d = %d, %d", text, line, column, got, why)
			}
		}
		for line := range last + 2 {
			for column := range widest + 2 {
				check(line, column)
			}
		}
		for _, n := range far {
			check(1, n)
			check(n, 1)
			check(n, n)
		}
		for at := range len(text) + 1 {
			if got, want := where(text, at), whereOf(text, at); got != want {
				t.Fatalf("Where of %q at %d = %v, not %v", text, at, got, want)
			}
		}
	}
}

// P3.11: there and back, and that nothing goes back.
func TestPlacesThereAndBack(t *testing.T) {
	for text := range fileTexts {
		for _, at := range placesOf(text) {
			found := where(text, at)
			if back, why := lines.Place(text, found.line, found.column); back != at || why != api.OK {
				t.Fatalf("%q: from %d to %v to %d, %d", text, at, found, back, why)
			}
		}
		ahead := spot{1, 1}
		for at := range len(text) + 1 {
			found := where(text, at)
			if found.line < ahead.line || found.line == ahead.line && found.column < ahead.column {
				t.Fatalf("%q: %v at %d, and %v ahead of it", text, found, at, ahead)
			}
			ahead = found
			back, why := lines.Place(text, found.line, found.column)
			if why != api.OK || back > at && at >= len(mark) {
				t.Fatalf("%q: from %d to %v to %d, %d", text, at, found, back, why)
			}
		}
	}
}

// P3.7 and P3.8: lines far behind and characters far within; lines may be longer here than they may be read.
func TestPlacesOfLongTexts(t *testing.T) {
	const many = 3 * api.MaxLine
	text := mark + strings.Repeat("é\r\n", many) + strings.Repeat("\u20ac\xff", many)
	for _, c := range []struct {
		at   int
		want spot
	}{
		{3, spot{1, 1}}, {3 + 4*(many-1), spot{many, 1}}, {3 + 4*many, spot{many + 1, 1}},
		{3 + 4*many + 4*(many-1), spot{many + 1, 2*many - 1}}, {len(text) - 1, spot{many + 1, 2 * many}}, {len(text), spot{many + 1, 2*many + 1}},
	} {
		if got := where(text, c.at); got != c.want {
			t.Errorf("Where at %d = %v, not %v", c.at, got, c.want)
		}
		if got, why := lines.Place(text, c.want.line, c.want.column); got != c.at || why != api.OK {
			t.Errorf("Place at %v = %d, %d, not %d", c.want, got, why, c.at)
		}
	}
}

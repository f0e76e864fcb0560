package rows_test

import (
	"math"
	"slices"
	"testing"

	"furrow/api"
	"furrow/rows"
	"furrow/trial"
)

// P6.5
func TestFind(t *testing.T) {
	ideographs := row(0x3400, 0x4DB5)
	list := []api.Row{row(0x41, 0x41), ideographs, row(0x4DB7, 0x4DB9)}
	for _, c := range []struct {
		r  rune
		at int // -1: there is none
	}{
		{0x41, 0}, {0x3400, 1}, {0x3401, 1}, {0x4DB5, 1}, {0x4DB7, 2}, {0x4DB8, 2}, {0x4DB9, 2},
		{0x40, -1}, {0x42, -1}, {0x33FF, -1}, {0x4DB6, -1}, {0x4DBA, -1}, {0, -1}, {-1, -1}, {api.MaxRune, -1}, {math.MinInt32, -1}, {math.MaxInt32, -1},
	} {
		got, is := rows.Find(list, c.r)
		if is != (c.at >= 0) || is && got != list[c.at] || !is && got != (api.Row{}) {
			t.Errorf("Find of %X = %v, %v", c.r, got, is)
		}
		for _, none := range [][]api.Row{nil, {}} {
			if got, is := rows.Find(none, c.r); is || got != (api.Row{}) {
				t.Errorf("Find of %X in no rows = %v, %v", c.r, got, is)
			}
		}
	}
}

// P6.5: in all short lists of rows, that overlap, stand in any order, have nothing in them, or reach beyond the code points.
func TestFindFirst(t *testing.T) {
	letters := []api.Row{row(1, 1), row(0, 2), row(2, 4), row(4, 2), row(-3, 0), row(5, 5), row(math.MinInt32, -2)}
	for i := range letters {
		letters[i].Name = string(rune('A' + i))
	}
	for size := range 5 {
		for list := range trial.Words(letters, size) {
			for r := rune(-4); r <= 7; r++ {
				at := slices.IndexFunc(list, func(row api.Row) bool { return row.First <= r && row.Last >= r })
				got, is := rows.Find(list, r)
				if is != (at >= 0) || is && got != list[at] || !is && got != (api.Row{}) {
					t.Fatalf("Find of %d in %v = %v, %v", r, list, got, is)
				}
			}
		}
	}
	wide := []api.Row{row(math.MinInt32, math.MaxInt32)}
	for _, r := range []rune{math.MinInt32, -1, 0, api.MaxRune, api.MaxRune + 1, math.MaxInt32} {
		if got, is := rows.Find(wide, r); !is || got != wide[0] {
			t.Errorf("Find of %d = %v, %v", r, got, is)
		}
	}
}

type told = trial.Pair[rune, api.Row]

// runesOf is what Runes tells, number by number from the least to the greatest that it is tried with.
func runesOf(list []api.Row, least, greatest rune) []told {
	var out []told
	for _, row := range list {
		for r := least; r <= greatest; r++ {
			if r >= row.First && r <= row.Last && isPoint(r) {
				out = append(out, told{A: r, B: row})
			}
		}
	}
	return out
}

// P6.6
func TestRunes(t *testing.T) {
	for _, none := range [][]api.Row{nil, {}, {row(5, 4)}, {row(-5, -1)}, {row(api.MaxRune+1, math.MaxInt32)}, {row(math.MaxInt32, math.MinInt32)}} {
		if got := trial.Collect(rows.Runes(none)); len(got) != 0 {
			t.Errorf("Runes of %v tells %v", none, got)
		}
	}
	a, b := row(0x41, 0x43), row(0x50, 0x50)
	want := []told{{A: 0x41, B: a}, {A: 0x42, B: a}, {A: 0x43, B: a}, {A: 0x50, B: b}}
	if got := trial.Collect(rows.Runes([]api.Row{a, b})); !slices.Equal(got, want) {
		t.Errorf("Runes tells %v", got)
	}
}

// P6.6: of all short lists of rows, in any order, that overlap, or reach below 0 or above MaxRune.
func TestRunesOfAnyRows(t *testing.T) {
	const end = api.MaxRune
	for _, letters := range [][]api.Row{
		{row(0, 0), row(-1, 1), row(1, 3), row(2, 2), row(3, 1), row(math.MinInt32, 0), row(-3, -2)},
		{row(end, end), row(end-1, end+1), row(end-3, end-1), row(end+1, end+2), row(end, math.MaxInt32), row(end, end-1)},
	} {
		for i := range letters {
			letters[i].Name = string(rune('A' + i))
		}
		for size := range 5 {
			for list := range trial.Words(letters, size) {
				want := runesOf(list, -3, 3)
				if letters[0].First > 3 {
					want = runesOf(list, end-3, end+3)
				}
				if got := trial.Collect(rows.Runes(list)); !slices.Equal(got, want) {
					t.Fatalf("Runes of %v tells %v", list, got)
				}
			}
		}
	}
}

// P6.6: a row of all numbers tells each code point once, rising.
func TestRunesOfAllNumbers(t *testing.T) {
	all := row(math.MinInt32, math.MaxInt32)
	next := rune(0)
	for r, of := range rows.Runes([]api.Row{all}) {
		if r != next || of != all {
			t.Fatalf("%X and %v for %X", r, of, next)
		}
		next++
	}
	if next != api.MaxRune+1 {
		t.Errorf("ends ahead of %X", next)
	}
}

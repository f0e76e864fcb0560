package tables_test

import (
	"fmt"
	"math"
	"slices"
	"testing"

	"furrow/api"
	"furrow/tables"
	"furrow/trial"
)

// rows is what is handed to Hand.
type rows struct {
	rest           api.Class
	classes        []api.Entry
	brackets       []api.Bracket
	twins, mirrors []api.Twin
}

func (h rows) hand() (*tables.Tables, rune, api.Errno) {
	return tables.Hand(h.rest, h.classes, h.brackets, h.twins, h.mirrors)
}

// refused is the number of the first row that may not be, and whether there is one.
func (h rows) refused() (rune, bool) {
	if h.rest < 1 || h.rest > 23 {
		return 0, true
	}
	for _, e := range h.classes {
		if e.From < 0 || e.To > last || e.From > e.To || e.Class < 1 || e.Class > 23 {
			return e.From, true
		}
	}
	for _, b := range h.brackets {
		if b.At < 0 || b.At > last || b.Other < 0 || b.Other > last || b.At == b.Other || b.Side != api.Opens && b.Side != api.Closes {
			return b.At, true
		}
	}
	for _, l := range [][]api.Twin{h.twins, h.mirrors} {
		for _, t := range l {
			if t.At < 0 || t.At > last || t.As < 0 || t.As > last || t.At == t.As {
				return t.At, true
			}
		}
	}
	return 0, false
}

// world is what the rows say, laid one over the other; the entries must be short ones.
func (h rows) world() world {
	w := newWorld(h.rest)
	for _, e := range h.classes {
		for r := e.From; r <= e.To; r++ {
			w.class[r] = e.Class
		}
	}
	for _, b := range h.brackets {
		w.bracket[b.At] = b.Other + 1
		if b.Side == api.Closes {
			w.bracket[b.At] = -(b.Other + 1)
		}
	}
	for _, t := range h.twins {
		w.twin[t.At] = t.As + 1
	}
	for _, t := range h.mirrors {
		w.mirror[t.At] = t.As + 1
	}
	return w
}

// isHanded holds Hand of the rows against the words; it tells which error there is.
func isHanded(t *testing.T, what string, h rows) api.Errno {
	t.Helper()
	got, r, why := h.hand()
	if wantR, is := h.refused(); is {
		isRefused(t, what, got, r, why, wantR, api.ErrArg)
		return api.ErrArg
	}
	return isMade(t, what, got, r, why, h.world())
}

// some is rows that go together.
func some() rows {
	return rows{
		rest:     api.AL,
		classes:  []api.Entry{{From: 0x28, To: 0x29, Class: api.ON}, {From: 0x2329, To: 0x232A, Class: api.ON}, {From: 0x3008, To: 0x3009, Class: api.ON}, {From: 0, To: 1, Class: api.ON}, {From: last - 1, To: last, Class: api.ON}},
		brackets: []api.Bracket{{At: 0x28, Other: 0x29, Side: api.Opens}, {At: 0x29, Other: 0x28, Side: api.Closes}, {At: 0x2329, Other: 0x232A, Side: api.Opens}, {At: 0x232A, Other: 0x2329, Side: api.Closes}, {At: 0x3009, Other: 0x3008, Side: api.Closes}, {At: 0x3008, Other: 0x3009, Side: api.Opens}, {At: 0, Other: last, Side: api.Opens}, {At: last, Other: 0, Side: api.Closes}},
		twins:    []api.Twin{{At: 0x2329, As: 0x3008}, {At: 0x232A, As: 0x3009}},
		mirrors:  []api.Twin{{At: 0x28, As: 0x29}, {At: 0x29, As: 0x28}, {At: 'x', As: 0}, {At: last, As: 'x'}},
	}
}

// The chapter's examples.
func TestHandExamples(t *testing.T) {
	got, r, why := tables.Hand(api.ON, nil, nil, nil, nil)
	if got == nil || r != 0 || why != api.OK {
		t.Fatal(r, why)
	}
	o, s := got.Bracket(0x28)
	m, is := got.Mirror(0x28)
	if got.Class(5) != api.ON || got.Class(-1) != api.ON || o != 0 || s != api.None || got.Twin(0x28) != 0x28 || m != 0 || is {
		t.Error(got.Class(5), got.Class(-1), o, s, got.Twin(0x28), m, is)
	}
	got, r, why = tables.Hand(api.L, []api.Entry{{From: 0x30, To: 0x39, Class: api.EN}, {From: 0x35, To: 0x35, Class: api.AN}}, nil, nil, nil)
	if got == nil || r != 0 || why != api.OK || got.Class(0x34) != api.EN || got.Class(0x35) != api.AN || got.Class(0x41) != api.L {
		t.Error(r, why)
	}
	for what, c := range map[string]struct {
		rows rows
		r    rune
		why  api.Errno
	}{
		"29 is no bracket":   {rows{rest: api.ON, brackets: []api.Bracket{{At: 0x28, Other: 0x29, Side: api.Opens}}}, 0x28, api.ErrAmiss},
		"its class":          {rows{rest: api.L, brackets: some().brackets[:2]}, 0x28, api.ErrAmiss},
		"no class":           {rows{}, 0, api.ErrArg},
		"from above to":      {rows{rest: api.L, classes: []api.Entry{{From: 5, To: 4, Class: api.L}}}, 5, api.ErrArg},
		"its other one":      {rows{rest: api.ON, brackets: []api.Bracket{{At: 0x28, Other: 0x28, Side: api.Opens}}}, 0x28, api.ErrArg},
		"nothing but a rest": {rows{rest: api.PDI, classes: []api.Entry{}, brackets: []api.Bracket{}, twins: []api.Twin{}, mirrors: []api.Twin{}}, 0, api.OK},
	} {
		got, r, why := c.rows.hand()
		if r != c.r || why != c.why || (got == nil) != (why != api.OK) {
			t.Errorf("%s: %X, %v", what, r, why)
		}
	}
}

// 14.3: rows that go together; each class as the rest.
func TestHand(t *testing.T) {
	if why := isHanded(t, "some", some()); why != api.OK {
		t.Error(why)
	}
	for rest := range 256 {
		h := rows{rest: api.Class(rest)}
		if why := isHanded(t, fmt.Sprint(rest), h); (why == api.OK) != (rest >= 1 && rest <= 23) {
			t.Errorf("%d: %v", rest, why)
		}
	}
}

// 14.3: a row of each kind that may not be, ahead of those that may, among them and behind them.
func TestHandOfWrongRows(t *testing.T) {
	for _, e := range []api.Entry{
		{From: 5, To: 4, Class: api.L}, {From: -1, To: 4, Class: api.L}, {From: -1, To: -1, Class: api.L}, {From: 4, To: count, Class: api.L}, {From: count, To: count, Class: api.L},
		{From: 4, To: 5, Class: 0}, {From: 4, To: 5, Class: 24}, {From: 4, To: 5, Class: 255}, {From: math.MinInt32, To: math.MaxInt32, Class: api.L}, {From: math.MaxInt32, To: math.MinInt32, Class: api.L}, {From: 0, To: math.MaxInt32, Class: api.L}, {From: last, To: 0, Class: api.L},
	} {
		for at := range some().classes {
			h := some()
			h.classes = slices.Insert(h.classes, at, e)
			isArg(t, fmt.Sprint("class ", e, at), h, e.From)
		}
	}
	for _, b := range []api.Bracket{
		{At: 7, Other: 7, Side: api.Opens}, {At: 7, Other: 7, Side: api.Closes}, {At: -1, Other: 7, Side: api.Opens}, {At: count, Other: 7, Side: api.Opens}, {At: 7, Other: -1, Side: api.Opens}, {At: 7, Other: count, Side: api.Closes},
		{At: 7, Other: 8}, {At: 7, Other: 8, Side: 3}, {At: 7, Other: 8, Side: 255}, {At: math.MinInt32, Other: math.MaxInt32, Side: api.Opens}, {At: math.MaxInt32, Other: math.MinInt32, Side: api.Closes}, {},
	} {
		for at := range some().brackets {
			h := some()
			h.brackets = slices.Insert(h.brackets, at, b)
			isArg(t, fmt.Sprint("bracket ", b, at), h, b.At)
		}
	}
	for _, w := range []api.Twin{{At: 7, As: 7}, {}, {At: last, As: last}, {At: -1, As: 7}, {At: 7, As: -1}, {At: count, As: 7}, {At: 7, As: count}, {At: math.MinInt32, As: 0}, {At: 0, As: math.MaxInt32}, {At: math.MaxInt32, As: math.MinInt32}} {
		for at := range len(some().twins) + 1 {
			h := some()
			h.twins = slices.Insert(h.twins, at, w)
			isArg(t, fmt.Sprint("twin ", w, at), h, w.At)
		}
		for at := range len(some().mirrors) + 1 {
			h := some()
			h.mirrors = slices.Insert(h.mirrors, at, w)
			isArg(t, fmt.Sprint("mirror ", w, at), h, w.At)
		}
	}
}

// isArg is whether Hand refuses the rows with ErrArg and the number r.
func isArg(t *testing.T, what string, h rows, wantR rune) {
	t.Helper()
	got, r, why := h.hand()
	isRefused(t, what, got, r, why, wantR, api.ErrArg)
}

// 14.3: the order in which wrong rows are told: by kinds, and in each the first one, whatever their numbers are; all ahead of what is amiss.
func TestHandTellsTheFirst(t *testing.T) {
	h := some()
	h.brackets = append(h.brackets, api.Bracket{At: 'q', Other: 'p', Side: api.Opens})
	if got, r, why := h.hand(); got != nil || r != 'q' || why != api.ErrAmiss {
		t.Error(r, why)
	}
	h.mirrors = append(h.mirrors, api.Twin{At: 3, As: 3}, api.Twin{At: 2, As: 2})
	isArg(t, "mirrors", h, 3)
	h.twins = append(h.twins, api.Twin{At: 5, As: 5}, api.Twin{At: 4, As: 4})
	isArg(t, "twins", h, 5)
	h.brackets = append(h.brackets, api.Bracket{At: 8, Other: 9, Side: 3}, api.Bracket{At: 7, Other: 7, Side: api.Opens})
	isArg(t, "brackets", h, 8)
	h.classes = append(h.classes, api.Entry{From: 0x19, To: 0x10, Class: api.L}, api.Entry{From: -5, To: 0, Class: api.L})
	isArg(t, "classes", h, 0x19)
	h.rest = 24
	isArg(t, "rest", h, 0)
	h.rest = 0
	isArg(t, "rest", h, 0)
}

// 14.3: a wrong row is told though a later one of the same number takes its place.
func TestHandOfWrongRowsReplaced(t *testing.T) {
	h := some()
	h.brackets = slices.Insert(h.brackets, 0, api.Bracket{At: 0x28, Other: 0x29, Side: 3})
	isArg(t, "a bracket", h, 0x28)
	h = some()
	h.twins = slices.Insert(h.twins, 0, api.Twin{At: 0x2329, As: 0x2329})
	isArg(t, "a twin", h, 0x2329)
	h = some()
	h.mirrors = slices.Insert(h.mirrors, 0, api.Twin{At: 0x28, As: -1})
	isArg(t, "a mirror", h, 0x28)
	h = some()
	h.classes = slices.Insert(h.classes, 0, api.Entry{From: 9, To: 9, Class: 24})
	isArg(t, "an entry", h, 9)
}

// 14.3: of rows with one At the last one counts, and of entries the last one that has a number.
func TestHandLastCounts(t *testing.T) {
	h := some()
	h.classes = slices.Insert(h.classes, 0, api.Entry{From: 0, To: last, Class: api.R}, api.Entry{From: 0x20, To: 0x30, Class: api.EN})
	h.brackets = slices.Insert(h.brackets, 0, api.Bracket{At: 0x28, Other: 5, Side: api.Closes}, api.Bracket{At: 0x28, Other: 0x3009, Side: api.Opens})
	h.twins = slices.Insert(h.twins, 0, api.Twin{At: 0x2329, As: 0x29}, api.Twin{At: 0x232A, As: 5})
	h.mirrors = slices.Insert(h.mirrors, 0, api.Twin{At: 0x28, As: 5}, api.Twin{At: 0x28, As: 6})
	got, r, why := h.hand()
	if got == nil || r != 0 || why != api.OK {
		t.Fatal(r, why)
	}
	m, _ := got.Mirror(0x28)
	o, s := got.Bracket(0x28)
	if m != 0x29 || o != 0x29 || s != api.Opens || got.Twin(0x2329) != 0x3008 || got.Class(0x27) != api.EN || got.Class(0x31) != api.R || got.Class(0x29) != api.ON {
		t.Error(m, o, s, got.Twin(0x2329), got.Class(0x27), got.Class(0x31), got.Class(0x29))
	}
	slices.Reverse(h.brackets)
	if got, r, why := h.hand(); got != nil || r != 0x28 || why != api.ErrAmiss {
		t.Error(r, why)
	}
}

// 14.3: entries that lie over one another in all sorts of ways, held against the last one that has each number.
func TestHandOfEntries(t *testing.T) {
	t.Parallel()
	next := trial.Numbers()
	pick := func(bound int) rune { return rune(int(next()>>8) % bound) }
	for n := range 800 {
		base := []rune{0, 0x30, 0xFF0, last - 0x20}[pick(4)]
		h := rows{rest: api.Class(1 + pick(23))}
		for range pick(9) {
			from := base + pick(0x20)
			h.classes = append(h.classes, api.Entry{From: from, To: min(from+pick(0x20), last), Class: api.Class(1 + pick(4))})
		}
		if why := isHanded(t, fmt.Sprint(n), h); why != api.OK {
			t.Fatal(n, why)
		}
	}
}

// 14.3: entries that have all numbers, and that touch, at all edges of blocks.
func TestHandOfGreatEntries(t *testing.T) {
	few := []rune{0, 1, 0x3F, 0x40, 0xFFF, 0x1000, 0x8000, 0x10F000, last - 1, last}
	for _, from := range few {
		for _, to := range few {
			if from > to {
				continue
			}
			got, r, why := tables.Hand(api.L, []api.Entry{{From: 5, To: 0x2000, Class: api.AL}, {From: from, To: to, Class: api.R}, {From: 0x20, To: 0x20, Class: api.B}}, nil, nil, nil)
			if got == nil || r != 0 || why != api.OK {
				t.Fatal(r, why)
			}
			for _, r := range append(few, 4, 5, 0x1F, 0x20, 0x21, 0x2000, 0x2001) {
				want := api.L
				switch {
				case r == 0x20:
					want = api.B
				case r >= from && r <= to:
					want = api.R
				case r >= 5 && r <= 0x2000:
					want = api.AL
				}
				if c := got.Class(r); c != want {
					t.Errorf("%X..%X: the class of %X is %d, not %d", from, to, r, c, want)
				}
			}
		}
	}
}

// 14.3: rows of all sorts, wrong ones among them, with one At more than once.
func TestHandOfManyRows(t *testing.T) {
	t.Parallel()
	next := trial.Numbers()
	pick := func(bound int) int { return int(next()>>8) % bound }
	number := func() rune {
		if pick(80) == 0 {
			return []rune{-1, count, math.MinInt32, math.MaxInt32}[pick(4)]
		}
		return []rune{0, 0x28, 0x29, 0x40, last}[pick(5)]
	}
	two := func() (rune, rune) {
		one, other := number(), number()
		if one == other && pick(10) > 0 {
			other = 0x41
		}
		return one, other
	}
	met := map[api.Errno]int{}
	for n := range 2000 {
		h := rows{rest: api.ON}
		if pick(2) == 0 {
			h = some()
		}
		for range pick(3) {
			from := number()
			to := min(from+rune(pick(5)), max(from, last)) - rune(pick(30)/29)
			h.classes = append(h.classes, api.Entry{From: from, To: to, Class: api.Class(14 - pick(20)/18*pick(15))})
		}
		for range pick(3) {
			at, other := two()
			h.brackets = append(h.brackets, api.Bracket{At: at, Other: other, Side: api.Side(1 + pick(2) + pick(30)/29)})
		}
		for range pick(2) {
			at, as := two()
			h.twins = append(h.twins, api.Twin{At: at, As: as})
		}
		for range pick(4) {
			at, as := two()
			h.mirrors = append(h.mirrors, api.Twin{At: at, As: as})
		}
		met[isHanded(t, fmt.Sprint(n), h)]++
	}
	if met[api.OK] < 200 || met[api.ErrAmiss] < 300 || met[api.ErrArg] < 200 {
		t.Error(met)
	}
}

// P0.1: many entries and rows, that rise, fall, and lie over one another.
func TestHandOfMany(t *testing.T) {
	t.Parallel()
	const many = 1 << 19
	falling, over, nested := make([]api.Entry, many), make([]api.Entry, many), make([]api.Entry, many)
	mirrors := make([]api.Twin, many)
	for i := range rune(many) {
		c := api.Class(1 + i%23)
		falling[i] = api.Entry{From: last - i, To: last - i, Class: c}
		over[i] = api.Entry{From: 0, To: last, Class: c}
		nested[i] = api.Entry{From: i, To: last - i, Class: c}
		mirrors[i] = api.Twin{At: 2 * (many - i), As: i}
	}
	for what, c := range map[string]struct {
		classes []api.Entry
		of      func(r rune) api.Class
	}{
		"falling": {falling, func(r rune) api.Class {
			if i := last - r; i < many {
				return falling[i].Class
			}
			return api.L
		}},
		"over":   {over, func(rune) api.Class { return over[many-1].Class }},
		"nested": {nested, func(r rune) api.Class { return nested[min(r, last-r, many-1)].Class }},
	} {
		got, r, why := tables.Hand(api.L, c.classes, nil, nil, mirrors)
		if got == nil || r != 0 || why != api.OK {
			t.Fatal(what, r, why)
		}
		for r := range rune(count) {
			if got.Class(r) != c.of(r) {
				t.Fatalf("%s: the class of %X is %d", what, r, got.Class(r))
			}
		}
		if m, is := got.Mirror(2 * many); m != 0 || !is {
			t.Error(what, m, is)
		}
	}
}

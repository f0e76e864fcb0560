package points_test

import (
	"fmt"
	"slices"
	"testing"

	"furrow/api"
	"furrow/points"
)

// span is an api.Span[string], in short.
type span struct {
	From, To rune
	Val      string
}

// laid is the map with these spans, laid one by one.
func laid(all ...span) *points.Map[string] {
	m := points.New[string]()
	for _, s := range all {
		m.Lay(rangeOf(s.From, s.To), s.Val)
	}
	return m
}

// wantSpans holds what All tells against the spans.
func wantSpans(t *testing.T, what string, m *points.Map[string], want ...span) {
	t.Helper()
	var got []span
	for _, s := range spans(m) {
		got = append(got, span(s))
	}
	if !slices.Equal(got, want) {
		t.Errorf("%s: %v, not %v", what, got, want)
	}
}

// P4.2, P4.3: the chapter's examples. (10..19 and 20..29 do not touch as hexadecimal numbers, so the gap is filled ahead of the Lay.)
func TestMapExamples(t *testing.T) {
	m := points.New[string]()
	first, second, third := m.Put(rangeOf(0x10, 0x19), "a"), m.Put(rangeOf(0x20, 0x29), "a"), m.Put(rangeOf(0x15, 0x15), "b")
	if first != api.OK || second != api.OK || third != api.ErrMeet {
		t.Error(first, second, third)
	}
	wantSpans(t, "two puts", m, span{0x10, 0x19, "a"}, span{0x20, 0x29, "a"})
	m.Put(rangeOf(0x1A, 0x1F), "a")
	wantSpans(t, "grown together", m, span{0x10, 0x29, "a"})
	m.Lay(rangeOf(0x15, 0x17), "b")
	wantSpans(t, "split", m, span{0x10, 0x14, "a"}, span{0x15, 0x17, "b"}, span{0x18, 0x29, "a"})
	if gaps := slices.Collect(m.Gaps()); !slices.Equal(gaps, []api.Range{rangeOf(0, 0xF), rangeOf(0x2A, 0x10FFFF)}) {
		t.Errorf("Gaps: %x", gaps)
	}
	if n, why := m.Cut(rangeOf(0x14, 0x15)); n != 2 || why != api.OK {
		t.Errorf("Cut: %d, %d", n, why)
	}
	wantSpans(t, "cut", m, span{0x10, 0x13, "a"}, span{0x16, 0x17, "b"}, span{0x18, 0x29, "a"})
	if m.Len() != 3 || m.Size() != 24 {
		t.Errorf("Len %d, Size %d", m.Len(), m.Size())
	}
	if r, v, is := m.Meets(rangeOf(0, 0x14)); r != rangeOf(0x10, 0x13) || v != "a" || !is {
		t.Errorf("Meets: %x, %s, %t", r, v, is)
	}
	if r, v, is := m.Meets(rangeOf(0x14, 0x15)); r != rangeOf(0, 0) || v != "" || is {
		t.Errorf("Meets: %x, %s, %t", r, v, is)
	}
}

// P4.2: a new map is there, and has no values.
func TestNew(t *testing.T) {
	m := points.New[string]()
	if m == nil {
		t.Fatal("nil")
	}
	hold(t, m, newTable[string](0, 3))
	if other := points.New[string](); other == m || other.Lay(rangeOf(1, 1), "a") != api.OK {
		t.Error("no map of its own")
	}
	hold(t, m, newTable[string](0, 3))
}

// P4.2, P4.3: ranges that may not be are refused, and meet nothing; the map stays as it was.
func TestRangesThatMayNotBe(t *testing.T) {
	all := []span{{0, 5, "a"}, {0x41, 0x5A, "b"}, {0x10FFFE, 0x10FFFF, "c"}}
	m := laid(all...)
	for _, r := range ranges() {
		if plainMay(r) {
			continue
		}
		if why := m.Put(r, "x"); why != api.ErrRange {
			t.Errorf("Put(%x) is %d", r, why)
		}
		if why := m.Lay(r, "x"); why != api.ErrRange {
			t.Errorf("Lay(%x) is %d", r, why)
		}
		if n, why := m.Cut(r); n != 0 || why != api.ErrRange {
			t.Errorf("Cut(%x) is %d, %d", r, n, why)
		}
		if met, v, is := m.Meets(r); met != (api.Range{}) || v != "" || is {
			t.Errorf("Meets(%x) is %x, %q, %t", r, met, v, is)
		}
	}
	wantSpans(t, "refused", m, all...)
}

// P4.2, P4.3: all ranges that may be, on a map with values at both ends.
func TestRangesThatMayBe(t *testing.T) {
	all := []span{{0, 0, "a"}, {0x41, 0x5A, "b"}, {0x10FFFF, 0x10FFFF, "c"}}
	for _, r := range ranges() {
		if !plainMay(r) {
			continue
		}
		had, meets := 0, false
		for _, s := range all {
			for x := s.From; x <= s.To; x++ {
				if r.Lo <= x && x <= r.Hi {
					had, meets = had+1, true
				}
			}
		}
		m := laid(all...)
		if _, _, is := m.Meets(r); is != meets {
			t.Errorf("Meets(%x) is %t", r, is)
		}
		if why := m.Copy().Put(r, "x"); (why == api.ErrMeet) != meets || (why == api.OK) == meets {
			t.Errorf("Put(%x) is %d", r, why)
		}
		if n, why := m.Cut(r); n != had || why != api.OK || m.Size() != 28-had {
			t.Errorf("Cut(%x) is %d, %d, and leaves %d", r, n, why, m.Size())
		}
		if _, _, is := m.Meets(r); is {
			t.Errorf("%x is cut, and met", r)
		}
		if why := m.Put(r, "x"); why != api.OK || m.Size() != 28-had+int(r.Hi-r.Lo)+1 {
			t.Errorf("Put(%x) is %d, and there are %d", r, why, m.Size())
		}
	}
}

// P4.2: what is put ahead of, beside, over, in and behind one stretch and several.
func TestPut(t *testing.T) {
	one := []span{{10, 19, "a"}}
	two := []span{{10, 19, "a"}, {30, 39, "b"}}
	for _, c := range []struct {
		had  []span
		put  span
		why  api.Errno
		want []span
	}{
		{one, span{5, 8, "a"}, api.OK, []span{{5, 8, "a"}, {10, 19, "a"}}},
		{one, span{5, 9, "a"}, api.OK, []span{{5, 19, "a"}}},
		{one, span{5, 9, "b"}, api.OK, []span{{5, 9, "b"}, {10, 19, "a"}}},
		{one, span{20, 20, "a"}, api.OK, []span{{10, 20, "a"}}},
		{one, span{20, 20, "b"}, api.OK, []span{{10, 19, "a"}, {20, 20, "b"}}},
		{one, span{21, 22, "a"}, api.OK, []span{{10, 19, "a"}, {21, 22, "a"}}},
		{one, span{5, 10, "a"}, api.ErrMeet, one},
		{one, span{19, 22, "a"}, api.ErrMeet, one},
		{one, span{0, 0x10FFFF, "a"}, api.ErrMeet, one},
		{one, span{10, 19, "a"}, api.ErrMeet, one},
		{one, span{15, 15, "a"}, api.ErrMeet, one},
		{two, span{20, 29, "a"}, api.OK, []span{{10, 29, "a"}, {30, 39, "b"}}},
		{two, span{20, 29, "b"}, api.OK, []span{{10, 19, "a"}, {20, 39, "b"}}},
		{two, span{20, 29, "c"}, api.OK, []span{{10, 19, "a"}, {20, 29, "c"}, {30, 39, "b"}}},
		{two, span{20, 30, "a"}, api.ErrMeet, two},
		{two, span{0, 9, "a"}, api.OK, []span{{0, 19, "a"}, {30, 39, "b"}}},
		{two, span{40, 0x10FFFF, "b"}, api.OK, []span{{10, 19, "a"}, {30, 0x10FFFF, "b"}}},
		{[]span{{10, 19, "a"}, {21, 29, "a"}}, span{20, 20, "a"}, api.OK, []span{{10, 29, "a"}}},
	} {
		m := laid(c.had...)
		if why := m.Put(rangeOf(c.put.From, c.put.To), c.put.Val); why != c.why {
			t.Errorf("Put %v to %v is %d", c.put, c.had, why)
		}
		wantSpans(t, fmt.Sprint(c.put, " put to ", c.had), m, c.want...)
	}
}

// P4.2: what is laid and what is cut, over one stretch and several.
func TestLayAndCut(t *testing.T) {
	had := []span{{10, 19, "a"}, {20, 29, "b"}, {40, 49, "a"}}
	for _, c := range []struct {
		lay      span
		laid     []span
		n        int
		cut      []span
		whatHeld string
	}{
		{span{0, 8, "a"}, []span{{0, 8, "a"}, {10, 19, "a"}, {20, 29, "b"}, {40, 49, "a"}}, 0, had, "ahead"},
		{span{0, 9, "a"}, []span{{0, 19, "a"}, {20, 29, "b"}, {40, 49, "a"}}, 0, had, "touches"},
		{span{0, 10, "b"}, []span{{0, 10, "b"}, {11, 19, "a"}, {20, 29, "b"}, {40, 49, "a"}}, 1, []span{{11, 19, "a"}, {20, 29, "b"}, {40, 49, "a"}}, "overlaps"},
		{span{12, 13, "b"}, []span{{10, 11, "a"}, {12, 13, "b"}, {14, 19, "a"}, {20, 29, "b"}, {40, 49, "a"}}, 2, []span{{10, 11, "a"}, {14, 19, "a"}, {20, 29, "b"}, {40, 49, "a"}}, "lies in"},
		{span{12, 13, "a"}, had, 2, []span{{10, 11, "a"}, {14, 19, "a"}, {20, 29, "b"}, {40, 49, "a"}}, "lies in, alike"},
		{span{20, 29, "a"}, []span{{10, 29, "a"}, {40, 49, "a"}}, 10, []span{{10, 19, "a"}, {40, 49, "a"}}, "is one"},
		{span{15, 45, "b"}, []span{{10, 14, "a"}, {15, 45, "b"}, {46, 49, "a"}}, 21, []span{{10, 14, "a"}, {46, 49, "a"}}, "holds and overlaps"},
		{span{15, 45, "a"}, []span{{10, 49, "a"}}, 21, []span{{10, 14, "a"}, {46, 49, "a"}}, "grows together"},
		{span{5, 60, "c"}, []span{{5, 60, "c"}}, 30, nil, "holds all"},
		{span{0, 0x10FFFF, "a"}, []span{{0, 0x10FFFF, "a"}}, 30, nil, "is all"},
		{span{50, 0x10FFFF, "a"}, []span{{10, 19, "a"}, {20, 29, "b"}, {40, 0x10FFFF, "a"}}, 0, had, "behind"},
		{span{30, 39, "b"}, []span{{10, 19, "a"}, {20, 39, "b"}, {40, 49, "a"}}, 0, had, "between"},
		{span{49, 49, "b"}, []span{{10, 19, "a"}, {20, 29, "b"}, {40, 48, "a"}, {49, 49, "b"}}, 1, []span{{10, 19, "a"}, {20, 29, "b"}, {40, 48, "a"}}, "the last one"},
	} {
		r := rangeOf(c.lay.From, c.lay.To)
		m := laid(had...)
		if why := m.Lay(r, c.lay.Val); why != api.OK {
			t.Errorf("%s: Lay is %d", c.whatHeld, why)
		}
		wantSpans(t, c.whatHeld+", laid", m, c.laid...)
		m = laid(had...)
		if n, why := m.Cut(r); n != c.n || why != api.OK {
			t.Errorf("%s: Cut is %d, %d", c.whatHeld, n, why)
		}
		wantSpans(t, c.whatHeld+", cut", m, c.cut...)
	}
}

// P4.3: At of what is no code point.
func TestAtOfOtherNumbers(t *testing.T) {
	m := laid(span{0, 0x10FFFF, "a"})
	for _, x := range ends() {
		v, has := m.At(x)
		if is := x >= 0 && x <= 0x10FFFF; has != is || (v == "a") != is {
			t.Errorf("At(%x) is %q, %t", x, v, has)
		}
	}
}

// P4.3: a map that has all code points, and one that has all but some.
func TestWholeMap(t *testing.T) {
	m := laid(span{0, 0x10FFFF, "a"})
	if m.Len() != 1 || m.Size() != 0x110000 {
		t.Errorf("Len %d, Size %d", m.Len(), m.Size())
	}
	if gaps := slices.Collect(m.Gaps()); gaps != nil {
		t.Errorf("Gaps: %x", gaps)
	}
	m.Cut(rangeOf(0, 0))
	m.Cut(rangeOf(0xD800, 0xDFFF))
	m.Cut(rangeOf(0x10FFFF, 0x10FFFF))
	if gaps := slices.Collect(m.Gaps()); !slices.Equal(gaps, []api.Range{rangeOf(0, 0), rangeOf(0xD800, 0xDFFF), rangeOf(0x10FFFF, 0x10FFFF)}) {
		t.Errorf("Gaps: %x", gaps)
	}
	wantSpans(t, "all but some", m, span{1, 0xD7FF, "a"}, span{0xE000, 0x10FFFE, "a"})
}

// P4.5, P4.6: each code point put by itself: rising, and in an order of its own; what comes to be is one stretch.
func TestPutOneByOne(t *testing.T) {
	m := points.New[rune]()
	for x := rune(0); x <= api.MaxRune; x++ {
		if why := m.Put(rangeOf(x, x), 7); why != api.OK {
			t.Fatalf("Put %x is %d", x, why)
		}
	}
	if m.Len() != 1 || m.Size() != 0x110000 {
		t.Errorf("Len %d, Size %d", m.Len(), m.Size())
	}
	if r, v, is := m.Meets(rangeOf(0x8000, 0x8001)); r != rangeOf(0, 0x10FFFF) || v != 7 || !is {
		t.Errorf("Meets: %x, %d, %t", r, v, is)
	}
	const size = 4001
	mixed := points.New[rune]()
	for i := range rune(size) {
		x := i * 1009 % size
		if why := mixed.Put(rangeOf(x, x), 7); why != api.OK {
			t.Fatalf("Put %x is %d", x, why)
		}
	}
	if r, v, is := mixed.Meets(rangeOf(0, api.MaxRune)); r != rangeOf(0, size-1) || v != 7 || !is || mixed.Len() != 1 {
		t.Errorf("Meets: %x, %d, %t", r, v, is)
	}
}

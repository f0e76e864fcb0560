package points_test

import (
	"slices"
	"testing"

	"furrow/api"
	"furrow/points"
	"furrow/trial"
)

// P0.1, P4.2 to P4.4: a map that is nil, and a zero one, which is as a nil one.
func TestNilMap(t *testing.T) {
	for _, m := range []*points.Map[string]{nil, {}} {
		for _, r := range []api.Range{rangeOf(0, 0), rangeOf(5, 4), rangeOf(0, 0x10FFFF)} {
			n, cut := m.Cut(r)
			if put, lay := m.Put(r, "a"), m.Lay(r, "a"); put != api.ErrNil || lay != api.ErrNil || n != 0 || cut != api.ErrNil {
				t.Errorf("%x: %d, %d, %d, %d", r, put, lay, n, cut)
			}
			if met, v, is := m.Meets(r); met != (api.Range{}) || v != "" || is {
				t.Errorf("Meets(%x): %x, %q, %t", r, met, v, is)
			}
		}
		if v, has := m.At(0); v != "" || has || m.Len() != 0 || m.Size() != 0 || m.Copy() != nil {
			t.Errorf("%q, %t, %d, %d, %v", v, has, m.Len(), m.Size(), m.Copy())
		}
		for r, v := range m.All() {
			t.Errorf("All tells %x, %q", r, v)
		}
		for r := range m.Gaps() {
			t.Errorf("Gaps tells %x", r)
		}
		if !points.Same(m, nil) || !points.Same(points.New[string](), m) {
			t.Error("not as one without values")
		}
		over, turned := points.Over(m, m), points.Turn(m, func(string) string { return "x" })
		if over == nil || turned == nil || over.Put(rangeOf(0, 1), "a") != api.OK || turned.Put(rangeOf(0, 1), "a") != api.OK {
			t.Error("Over, Turn answer no map")
		}
	}
}

// P0.1, P4.3: iterators that are left early and gone over again.
func TestIteratorsLeftEarly(t *testing.T) {
	for _, m := range []*points.Map[string]{
		laid(span{1, 1, "a"}, span{2, 3, "b"}, span{5, 5, "b"}, span{7, 9, "a"}, span{10, 12, "b"}, span{20, 20, "c"}),
		laid(span{0, 1, "a"}, span{2, 3, "a"}, span{5, 5, "b"}, span{7, 9, "a"}, span{11, 12, "b"}, span{14, 0x10FFFF, "c"}),
	} {
		if wrong := trial.LeaveEarly(m.All()); wrong != "" {
			t.Error("All:", wrong)
		}
		if wrong := trial.LeaveEarly(trial.Beside(m.Gaps())); wrong != "" {
			t.Error("Gaps:", wrong)
		}
	}
}

// P0.1: an iterator tells what there is when going over it begins, also if the map is changed behind its making, and while the walk goes on.
func TestIteratorsOfAMapThatIsChanged(t *testing.T) {
	m := laid(span{1, 1, "a"})
	all, gaps := m.All(), m.Gaps()
	m.Lay(rangeOf(1, 5), "b")
	m.Lay(rangeOf(3, 3), "c")
	var told []span
	for r, v := range all {
		told = append(told, span{r.Lo, r.Hi, v})
		m.Lay(rangeOf(0, 4), "x")
		m.Cut(rangeOf(2, 9))
	}
	if !slices.Equal(told, []span{{1, 2, "b"}, {3, 3, "c"}, {4, 5, "b"}}) {
		t.Errorf("All tells %v", told)
	}
	wantSpans(t, "changed", m, span{0, 1, "x"})
	m.Lay(rangeOf(4, 4), "y")
	var free []api.Range
	for r := range gaps {
		free = append(free, r)
		m.Lay(rangeOf(5, 0x10FFFF), "z")
		m.Cut(rangeOf(0, 4))
	}
	if !slices.Equal(free, []api.Range{rangeOf(2, 3), rangeOf(5, 0x10FFFF)}) {
		t.Errorf("Gaps tells %x", free)
	}
	wantSpans(t, "changed", m, span{5, 0x10FFFF, "z"})
}

// P4.4: the function that Turn is handed may change the map: it is called for each stretch that there was.
func TestTurnOfAMapThatIsChanged(t *testing.T) {
	m := laid(span{1, 2, "a"}, span{3, 3, "b"}, span{7, 8, "a"})
	turned := points.Turn(m, func(v string) string {
		m.Lay(rangeOf(0, 5), "x")
		m.Cut(rangeOf(3, 9))
		return v + v
	})
	wantSpans(t, "turned", turned, span{1, 2, "aa"}, span{3, 3, "bb"}, span{7, 8, "aa"})
	wantSpans(t, "changed", m, span{0, 2, "x"})
}

// change changes a map all over: in place, by what is longer, and by what is shorter.
func change(m *points.Map[string]) {
	m.Lay(rangeOf(1, 2), "changed")
	m.Lay(rangeOf(0, 40), "changed")
	m.Cut(rangeOf(3, 5))
	m.Cut(rangeOf(0, 0x10FFFF))
	m.Lay(rangeOf(7, 7), "changed")
}

// P0.1, P4.4: a copy, and what Over and Turn answer, stay as they are when what they were made of is changed, and the other way round.
func TestAnswersAreNew(t *testing.T) {
	before := []span{{1, 2, "a"}, {3, 3, "b"}, {7, 8, "a"}}
	same := func(v string) string { return v }
	empty, none := points.New[string](), (*points.Map[string])(nil)
	for what, made := range map[string]func(m *points.Map[string]) *points.Map[string]{
		"Copy":             (*points.Map[string]).Copy,
		"Turn":             func(m *points.Map[string]) *points.Map[string] { return points.Turn(m, same) },
		"Over itself":      func(m *points.Map[string]) *points.Map[string] { return points.Over(m, m) },
		"Over an empty":    func(m *points.Map[string]) *points.Map[string] { return points.Over(empty, m) },
		"Over by an empty": func(m *points.Map[string]) *points.Map[string] { return points.Over(m, empty) },
		"Over nil":         func(m *points.Map[string]) *points.Map[string] { return points.Over(none, m) },
		"Over by nil":      func(m *points.Map[string]) *points.Map[string] { return points.Over(m, none) },
	} {
		m := laid(before...)
		answer := made(m)
		wantSpans(t, what, answer, before...)
		change(m)
		wantSpans(t, what+", the map changed", answer, before...)
		wantSpans(t, what+", the map itself", m, span{7, 7, "changed"})
		m = laid(before...)
		answer = made(m)
		change(answer)
		wantSpans(t, what+", the answer changed", m, before...)
		wantSpans(t, what+", the answer itself", answer, span{7, 7, "changed"})
	}
	if empty.Size() != 0 {
		t.Error("what was handed in is changed")
	}
}

// P0.1: what an error or a false stands beside is zero, and errors come in the chapter's order.
func TestErrorsComeInOrder(t *testing.T) {
	m := laid(span{1, 9, "a"})
	if why := m.Put(rangeOf(5, 4), "b"); why != api.ErrRange {
		t.Errorf("turned round, and meets: %d", why)
	}
	if why := m.Put(rangeOf(5, 0x110000), "b"); why != api.ErrRange {
		t.Errorf("too far, and meets: %d", why)
	}
	if why := m.Put(rangeOf(9, 0x10FFFF), "b"); why != api.ErrMeet {
		t.Errorf("meets: %d", why)
	}
	if n, why := m.Cut(rangeOf(0, 0)); n != 0 || why != api.OK {
		t.Errorf("nothing to cut: %d, %d", n, why)
	}
	wantSpans(t, "refused", m, span{1, 9, "a"})
}

// P0.1: many stretches: every call ends.
func TestManyStretches(t *testing.T) {
	m, other := points.New[rune](), points.New[rune]()
	for x := rune(0); x <= api.MaxRune; x += 4 {
		m.Put(rangeOf(x, x), x)
		other.Put(rangeOf(x+1, x+2), x)
	}
	const many = 0x110000 / 4
	over := points.Over(m, other)
	if m.Len() != many || over.Len() != many || over.Size() != 3*many || !points.Same(over, points.Over(other, m)) {
		t.Errorf("%d, %d, %d", m.Len(), over.Len(), over.Size())
	}
	gaps := 0
	for r := range over.Gaps() {
		if gaps++; r != rangeOf(rune(gaps)*4-1, rune(gaps)*4-1) {
			t.Fatalf("Gaps tells %x", r)
		}
	}
	if n, why := over.Cut(rangeOf(2, api.MaxRune-2)); n != 3*many-3 || why != api.OK || gaps != many {
		t.Errorf("Cut: %d, %d, %d", n, why, gaps)
	}
}

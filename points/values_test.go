package points_test

import (
	"math"
	"slices"
	"testing"

	"furrow/api"
	"furrow/points"
)

// tryValues makes all short orders of calls with the values, which are like themselves, and no two of which are alike.
func tryValues[V comparable](t *testing.T, values ...V) {
	allOrders(t, points.New[V](), newTable[V](3, 3), values, 2)
	m := points.New[V]()
	for i, v := range values {
		m.Lay(rangeOf(rune(i), rune(i)), v)
	}
	if m.Len() != len(values) || !points.Same(m, m.Copy()) || !points.Same(points.Over(m, m), m) {
		t.Errorf("of %v: %d stretches", values, m.Len())
	}
	places := points.Turn(m, func(v V) int { return slices.Index(values, v) })
	for i := range values {
		if at, has := places.At(rune(i)); at != i || !has {
			t.Errorf("of %v: %d at %d", values, at, i)
		}
	}
}

// P4.2 to P4.6: values of several types.
func TestValuesOfSeveralTypes(t *testing.T) {
	type inner struct {
		a string
		b [2]int
	}
	one, two := new(int), new(int)
	tryValues(t, false, true)
	tryValues(t, api.L, api.R, api.AL)
	tryValues(t, rune(0), -1, greatest)
	tryValues(t, "", "a", "\xff")
	tryValues(t, 0, 0.5, math.Inf(1))
	tryValues(t, 0, 1i)
	tryValues(t, [2]int{}, [2]int{0, 1})
	tryValues(t, inner{}, inner{"a", [2]int{}}, inner{"a", [2]int{0, 1}})
	tryValues(t, api.Range{}, rangeOf(0, 1))
	tryValues(t, nil, one, two)
	tryValues(t, any(nil), any(0), any(int8(0)), any(""), any(one))
	tryValues[error](t, nil, api.OK, api.ErrNil)
	tryValues(t, struct{}{})
	tryValues(t, make(chan int), make(chan int))
}

// tryUnlike makes all short orders of calls with values that are not all like themselves: like is whether one is the other all the same.
func tryUnlike[V comparable](t *testing.T, like func(a, b V) bool, values ...V) {
	want := newTable[V](0, 3)
	want.like, want.whole = like, false
	allOrders(t, points.New[V](), want, values, 3)
	low, high := points.New[V](), points.New[V]()
	last := values[len(values)-1]
	low.Lay(rangeOf(0, 2), values[0])
	high.Lay(rangeOf(1, 1), last)
	points.Same(low, low) // of its answer nothing is said, but that there is one
	points.Same(low, high)
	want.lay(rangeOf(0, 2), cell[V]{values[0], true})
	hold(t, low.Copy(), want)
	hold(t, points.Over(high, low), want)
	want.lay(rangeOf(1, 1), cell[V]{last, true})
	hold(t, points.Over(low, high), want)
	hold(t, points.Turn(points.Over(low, high), func(v V) V { return v }), want)
}

// P4.5, P4.6: values that are not like themselves: each code point tells its own, and All tells each of them once.
func TestValuesUnlikeThemselves(t *testing.T) {
	likeFloats := func(a, b float64) bool { return a == b || math.IsNaN(a) && math.IsNaN(b) }
	tryUnlike(t, likeFloats, math.NaN(), 1)
	tryUnlike(t, likeFloats, math.NaN())
	type pair struct{ a, b float64 }
	tryUnlike(t, func(x, y pair) bool { return likeFloats(x.a, y.a) && likeFloats(x.b, y.b) }, pair{1, math.NaN()}, pair{1, 2})
}

// P0.1, P4.2 to P4.6: values at which == panics are not like themselves, and no call panics.
func TestValuesThatCannotBeHeldAgainstOneAnother(t *testing.T) {
	label := func(v any) int {
		switch x := v.(type) {
		case []int:
			return x[0]
		case map[int]int:
			return x[0]
		case [1]any:
			return x[0].([]int)[0]
		}
		return -1
	}
	like := func(a, b any) bool { return label(a) == label(b) }
	tryUnlike[any](t, like, []int{1}, []int{2})
	tryUnlike[any](t, like, map[int]int{0: 3}, 4)
	tryUnlike[any](t, like, [1]any{[]int{5}}, []int{6})
	type holds struct{ v any }
	tryUnlike(t, func(a, b holds) bool { return like(a.v, b.v) }, holds{[]int{7}}, holds{[]int{8}})
}

// P4.5, P4.6: 0 and minus 0 are alike, so that they make one stretch; each code point tells the one that it was given.
func TestAlikeValuesThatAreNotTheSame(t *testing.T) {
	minus := math.Copysign(0, -1)
	m := points.New[float64]()
	m.Put(rangeOf(10, 19), 0)
	m.Put(rangeOf(20, 29), minus)
	m.Lay(rangeOf(14, 15), minus)
	m.Lay(rangeOf(24, 25), 0)
	other := points.New[float64]()
	other.Put(rangeOf(10, 29), minus)
	if m.Len() != 1 || m.Size() != 20 || !points.Same(m, other) {
		t.Errorf("Len %d, Size %d", m.Len(), m.Size())
	}
	for _, r := range []api.Range{rangeOf(10, 10), rangeOf(15, 20), rangeOf(29, 40)} {
		if met, v, is := m.Meets(r); met != rangeOf(10, 29) || v != 0 || !is {
			t.Errorf("Meets(%d): %d, %f, %t", r, met, v, is)
		}
	}
	copied, over := m.Copy(), points.Over(other, m)
	for x := rune(10); x < 30; x++ {
		want := x == 14 || x == 15 || x >= 20 && x < 24 || x > 25
		for _, m := range []*points.Map[float64]{m, copied, over} {
			if v, has := m.At(x); math.Signbit(v) != want || v != 0 || !has {
				t.Errorf("At(%d): %f, %t", x, v, has)
			}
		}
	}
	calls := 0
	points.Turn(m, func(float64) int { calls++; return 0 })
	if calls != 1 {
		t.Errorf("%d calls", calls)
	}
}

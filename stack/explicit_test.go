package stack_test

import (
	"math"
	"slices"
	"testing"

	"furrow/api"
	"furrow/paras"
	"furrow/stack"
	"furrow/trial"
)

// P16.3: the chapter's examples, and what the issue names.
func TestExplicit(t *testing.T) {
	const L, R, AL, ON, EN, B, BN, S = api.L, api.R, api.AL, api.ON, api.EN, api.B, api.BN, api.S
	const RLE, LRE, RLO, LRO, PDF, LRI, RLI, FSI, PDI = api.RLE, api.LRE, api.RLO, api.LRO, api.PDF, api.LRI, api.RLI, api.FSI, api.PDI
	const g = api.Gone
	for _, c := range []struct {
		base api.Level
		l    []api.Class
		want api.Explicit
	}{
		{0, nil, api.Explicit{}},
		{1, []api.Class{}, api.Explicit{}},
		{0, []api.Class{L, RLE, R, PDF, L}, api.Explicit{Levels: []api.Level{0, g, 1, g, 0}, Classes: []api.Class{L, RLE, R, PDF, L}, Match: []int{-1, -1, -1, -1, -1}}},
		{0, []api.Class{RLO, L, LRI, L, PDI, L, PDF, L}, api.Explicit{Levels: []api.Level{g, 1, 1, 2, 1, 1, g, 0}, Classes: []api.Class{RLO, R, R, L, R, R, PDF, L}, Match: []int{-1, -1, 4, -1, 2, -1, -1, -1}}},
		{1, []api.Class{RLI, L, PDI}, api.Explicit{Levels: []api.Level{1, 3, 1}, Classes: []api.Class{RLI, L, PDI}, Match: []int{2, -1, 0}}},
		{0, []api.Class{FSI, R, PDI}, api.Explicit{Levels: []api.Level{0, 1, 0}, Classes: []api.Class{FSI, R, PDI}, Match: []int{2, -1, 0}}},
		{0, []api.Class{FSI, L, PDI}, api.Explicit{Levels: []api.Level{0, 2, 0}, Classes: []api.Class{FSI, L, PDI}, Match: []int{2, -1, 0}}},
		{0, []api.Class{FSI, LRI, R, PDI, AL}, api.Explicit{Levels: []api.Level{0, 1, 2, 1, 1}, Classes: []api.Class{FSI, LRI, R, PDI, AL}, Match: []int{5, 3, -1, 1, -1}}},
		{0, []api.Class{PDI, PDF, L}, api.Explicit{Levels: []api.Level{0, g, 0}, Classes: []api.Class{PDI, PDF, L}, Match: []int{-1, -1, -1}}},
		{0, []api.Class{RLE, RLI, PDF, L, PDI, L}, api.Explicit{Levels: []api.Level{g, 1, g, 3, 1, 1}, Classes: []api.Class{RLE, RLI, PDF, L, PDI, L}, Match: []int{-1, 4, -1, -1, 1, -1}}},
		{1, []api.Class{LRO, R, B, R}, api.Explicit{Levels: []api.Level{g, 2, 1, 1}, Classes: []api.Class{LRO, L, B, R}, Match: []int{-1, -1, -1, -1}}},
		{0, []api.Class{RLI, RLO, B, PDI, L}, api.Explicit{Levels: []api.Level{0, g, 0, 0, 0}, Classes: []api.Class{RLI, RLO, B, PDI, L}, Match: []int{5, -1, -1, -1, -1}}},
		{0, []api.Class{RLO, 0, 24, 255, BN, S, EN, ON}, api.Explicit{Levels: []api.Level{g, 1, 1, 1, g, 1, 1, 1}, Classes: []api.Class{RLO, R, R, R, BN, R, R, R}, Match: []int{-1, -1, -1, -1, -1, -1, -1, -1}}},
		{0, []api.Class{0, 24, 255, LRE, 99}, api.Explicit{Levels: []api.Level{0, 0, 0, g, 2}, Classes: []api.Class{ON, ON, ON, LRE, ON}, Match: []int{-1, -1, -1, -1, -1}}},
	} {
		if got := explicit(t, c.base, c.l...); !sameExplicit(got, c.want) {
			t.Errorf("%s at %d: %v, not %v", names(c.l), c.base, got, c.want)
		}
		isModel(t, c.l)
	}
}

// P16.3: the chapter's examples beyond the limit.
func TestExplicitDeep(t *testing.T) {
	const L, R, RLE, LRE, PDF, LRI, PDI = api.L, api.R, api.RLE, api.LRE, api.PDF, api.LRI, api.PDI
	deep := append(many(62, RLE, LRE), RLE, L)
	for _, c := range []struct {
		behind []api.Class
		want   []api.Level
	}{
		{nil, []api.Level{125}},
		{[]api.Class{LRI, R, PDI, R}, []api.Level{125, 125, 125, 125}},
		{[]api.Class{LRE, PDF, PDF, R}, []api.Level{124}},
		{[]api.Class{LRE, PDF, R}, []api.Level{125}},
		{[]api.Class{LRI, PDF, PDF, R, PDI, PDF, R}, []api.Level{124}},
	} {
		got := explicit(t, 0, append(slices.Clone(deep), c.behind...)...)
		if last := got.Levels[len(got.Levels)-len(c.want):]; !slices.Equal(last, c.want) {
			t.Error(names(c.behind), last, c.want)
		}
	}
	if s := made(t, 0, deep...); s.Depth() != 126 {
		t.Error(s.Depth())
	}
}

// P16.3: numbers that are no base; what is too long is told behind them.
func TestExplicitOfNoBase(t *testing.T) {
	long := make([]api.Class, api.MaxText+1)
	for n := math.MinInt8; n <= math.MaxInt8; n++ {
		base := api.Level(n)
		want := api.ErrLevel
		if base == 0 || base == 1 {
			want = api.OK
		}
		for _, l := range [][]api.Class{nil, {api.L}, {api.FSI, 0, api.R}} {
			x, why := stack.Explicit(base, l...)
			if why != want || len(x.Levels) != len(x.Classes) || len(x.Match) != len(x.Levels) || why != api.OK && len(x.Levels) != 0 {
				t.Error(n, x, why)
			}
		}
		if want == api.OK {
			want = api.ErrLong
		}
		if x, why := stack.Explicit(base, long...); why != want || x.Levels != nil || x.Classes != nil || x.Match != nil {
			t.Error(n, len(x.Levels), why)
		}
	}
}

// P16.3: as many classes as there may be, and one more; what is nested in them, or stands in a row, does not take time beyond all measure.
func TestExplicitLong(t *testing.T) {
	t.Parallel()
	const size = api.MaxText
	for _, c := range []struct {
		l    []api.Class
		last api.Level
	}{
		{many(size, api.FSI), 124},
		{many(size, api.RLI), 125},
		{many(size, api.RLE), api.Gone},
		{many(size, api.PDI), 0},
		{many(size, api.B), 0},
		{many(size/2, api.FSI, api.PDI), 0},
		{many(size/4, api.FSI, api.ON, api.FSI, api.B), 0},
		{slices.Concat(many(size/2, api.FSI), many(size/2, api.PDI)), 0},
		{slices.Concat(many(size/2, api.FSI), many(size/2-1, api.ON), []api.Class{api.R}), 124},
		{slices.Concat(many(100, api.FSI), many(size-101, api.ON), []api.Class{api.R}), 124},
		{slices.Concat(many(100, api.FSI), many(size-102, api.ON), []api.Class{api.B, api.R}), 0},
		{slices.Concat(many(100, api.FSI), many(size/2-100, api.LRI, api.PDI), many(50, api.AL, api.L)), 124},
		{slices.Concat(many(size/2-1, api.RLE), many(size/2, api.FSI), []api.Class{api.R}), 125},
	} {
		if len(c.l) != size {
			c.l = append(c.l, many(size-len(c.l), api.ON)...)
		}
		got := explicit(t, 0, c.l...)
		if last := got.Levels[size-1]; len(got.Levels) != size || len(got.Classes) != size || len(got.Match) != size || last != c.last {
			t.Error(names(c.l[:3]), len(got.Levels), last)
		}
		if x, why := stack.Explicit(0, append(c.l, api.L)...); why != api.ErrLong || x.Levels != nil || x.Classes != nil || x.Match != nil {
			t.Error(names(c.l[:3]), why)
		}
	}
}

// P16.3: what an FSI finds behind it.
func TestExplicitOfFSI(t *testing.T) {
	const L, R, AL, ON, EN, AN, B = api.L, api.R, api.AL, api.ON, api.EN, api.AN, api.B
	const RLE, LRO, PDF, LRI, RLI, FSI, PDI = api.RLE, api.LRO, api.PDF, api.LRI, api.RLI, api.FSI, api.PDI
	for _, c := range []struct {
		behind []api.Class
		right  bool
	}{
		{[]api.Class{L}, false},
		{[]api.Class{R}, true},
		{[]api.Class{AL}, true},
		{nil, false},
		{[]api.Class{ON, EN, AN, 0, 99}, false},
		{[]api.Class{ON, EN, AN, 0, 99, R}, true},
		{[]api.Class{R, L}, true},
		{[]api.Class{L, R}, false},
		{[]api.Class{PDI, R}, false},
		{[]api.Class{ON, PDI, R}, false},
		{[]api.Class{R, PDI, L}, true},
		{[]api.Class{LRI, R, PDI}, false},
		{[]api.Class{LRI, L, PDI, R}, true},
		{[]api.Class{FSI, R, PDI, PDI, R}, false},
		{[]api.Class{FSI, FSI, L, PDI, L, PDI, AL, PDI}, true},
		{[]api.Class{LRI, R}, false},     // that one has no end
		{[]api.Class{LRI, PDI, R}, true}, // no end of its own, but up to the end
		{[]api.Class{LRI, PDI, PDI, R}, false},
		{[]api.Class{ON, B, R}, false}, // up to the B
		{[]api.Class{R, B, L}, true},
		{[]api.Class{ON, B, R, PDI}, false},
		{[]api.Class{LRI, PDI, AL, B, PDI}, true},
		{[]api.Class{B, R}, false},
		{[]api.Class{RLE, L, PDF}, false}, // embeddings do not count
		{[]api.Class{RLE, PDF, LRO, R, PDF}, true},
		{[]api.Class{PDF, R}, true},
	} {
		for base := range api.Level(2) {
			want := api.Level(2)
			if c.right {
				want = 1 + 2*base
			}
			l := append([]api.Class{L, FSI, ON}, c.behind...)
			if got := explicit(t, base, l...); got.Levels[1] != base || got.Levels[2] != want {
				t.Errorf("%s at %d: %v, not %d", names(l), base, got.Levels, want)
			}
			isModel(t, l)
		}
	}
}

// P16.3: an FSI within others: each is asked where it stands.
func TestExplicitOfNestedFSI(t *testing.T) {
	const L, R, AL, FSI, PDI, RLO, LRI = api.L, api.R, api.AL, api.FSI, api.PDI, api.RLO, api.LRI
	for _, c := range []struct {
		l    []api.Class
		want []api.Level
	}{
		{[]api.Class{FSI, FSI, R, PDI, L, PDI}, []api.Level{0, 2, 3, 2, 2, 0}},
		{[]api.Class{FSI, FSI, L, PDI, R, PDI}, []api.Level{0, 1, 2, 1, 1, 0}},
		{[]api.Class{FSI, FSI, FSI, AL, PDI, PDI, PDI}, []api.Level{0, 2, 4, 5, 4, 2, 0}},
		{[]api.Class{FSI, FSI, FSI, AL}, []api.Level{0, 2, 4, 5}},
		{[]api.Class{FSI, L, FSI, R, FSI, L}, []api.Level{0, 2, 2, 3, 3, 4}},
		{[]api.Class{RLO, FSI, L, FSI, R}, []api.Level{api.Gone, 1, 2, 2, 3}},
		{append(many(61, LRI), FSI, R), append(evens(61), 122, 123)},
		{append(many(62, LRI), FSI, R), append(evens(62), 124, 125)},
		{append(many(62, LRI), FSI, L, PDI, R), append(evens(62), 124, 124, 124, 124)},
		{append(many(62, LRI), FSI, L, FSI, R), append(evens(62), 124, 124, 124, 124)},
		{append(many(62, LRI), FSI, R, FSI, L), append(evens(62), 124, 125, 125, 125)},
	} {
		if got := explicit(t, 0, c.l...); !slices.Equal(got.Levels, c.want) {
			t.Errorf("%s: %v, not %v", names(c.l), got.Levels, c.want)
		}
		isModel(t, c.l)
	}
}

// evens are so many even levels, from 0 on.
func evens(n int) []api.Level {
	var out []api.Level
	for i := range n {
		out = append(out, api.Level(2*i))
	}
	return out
}

// P16.3: all short lists of what does something.
func TestExplicitOfAll(t *testing.T) {
	t.Parallel()
	letters := []api.Class{api.RLE, api.LRO, api.LRI, api.FSI, api.PDI, api.PDF, api.B, api.R, api.L}
	for size := range 6 {
		for l := range trial.Words(letters, size) {
			isModel(t, l)
		}
	}
	few := []api.Class{api.FSI, api.RLI, api.PDI, api.AL, api.B}
	for size := 6; size < 8; size++ {
		for l := range trial.Words(few, size) {
			isModel(t, l)
		}
	}
}

// P16.3: longer lists, nested deeper.
func TestExplicitOfLonger(t *testing.T) {
	t.Parallel()
	letters := []api.Class{api.FSI, api.LRI, api.RLE, api.FSI, api.RLI, api.LRE, api.RLO, api.PDI, api.PDF, api.PDI, api.AL, api.L, api.ON, 0, api.BN, api.B}
	next := trial.Numbers()
	for round := range 2000 {
		l := make([]api.Class, 10+round%290)
		kinds := 1 + int(next()>>8)%len(letters)
		for i := range l {
			l[i] = letters[int(next()>>8)%kinds]
		}
		isModel(t, l)
	}
}

// P16.3: what is answered is what steps answer and what paras.Match tells.
func TestExplicitIsSteps(t *testing.T) {
	letters := []api.Class{api.RLO, api.LRI, api.RLI, api.PDI, api.PDF, api.B, api.L, 99}
	for l := range trial.Words(letters, 5) {
		for base := range api.Level(2) {
			s := made(t, base)
			var want api.Explicit
			for _, c := range l {
				told := step(s, c, 1)
				want.Levels = append(want.Levels, told.level)
				want.Classes = append(want.Classes, told.class)
			}
			want.Match = paras.Match(l)
			if got := explicit(t, base, l...); !sameExplicit(got, want) {
				t.Fatalf("%s at %d: %v, not %v", names(l), base, got, want)
			}
		}
	}
}

package stack_test

import (
	"math"
	"slices"
	"testing"

	"furrow/api"
	"furrow/stack"
	"furrow/trial"
)

// P16.1: all numbers that a base may be.
func TestNew(t *testing.T) {
	for n := math.MinInt8; n <= math.MaxInt8; n++ {
		base := api.Level(n)
		s, why := stack.New(base)
		if base != 0 && base != 1 {
			if s != nil || why != api.ErrLevel {
				t.Error(n, s, why)
			}
			continue
		}
		if s == nil || why != api.OK || stateOf(s) != (state{depth: 1, level: base}) {
			t.Error(n, s, why)
		}
	}
}

// P16.1: each number that a class may have, at the beginning of both bases.
func TestStepOfEach(t *testing.T) {
	for _, base := range []api.Level{0, 1} {
		for _, c := range every() {
			s := made(t, base)
			want, after := answer{base, c, true}, state{depth: 1, level: base}
			switch c {
			case api.RLE, api.RLO:
				want, after = answer{api.Gone, c, false}, state{depth: 2, level: 1 + 2*base}
			case api.LRE, api.LRO:
				want, after = answer{api.Gone, c, false}, state{depth: 2, level: 2}
			case api.RLI:
				after = state{depth: 2, level: 1 + 2*base, valid: 1}
			case api.LRI, api.FSI:
				after = state{depth: 2, level: 2, valid: 1}
			case api.PDF, api.BN:
				want = answer{api.Gone, c, false}
			}
			if c < api.L || c > api.PDI {
				want.class = api.ON
			}
			if got := step(s, c, 0); got != want || stateOf(s) != after {
				t.Error(base, c, got, stateOf(s))
			}
		}
	}
}

// P16.1: each number within each override, in an isolate of it, behind one, and where there is no room.
func TestStepOfEachWithin(t *testing.T) {
	deep := many(125, api.RLE, api.LRE)
	for _, ahead := range [][]api.Class{
		{api.RLO}, {api.LRO}, {api.RLO, api.LRI}, {api.LRO, api.RLI}, {api.RLO, api.LRI, api.PDI}, {api.LRO, api.RLE}, {api.RLO, api.LRO, api.PDF},
		{api.LRI, api.RLO}, {api.LRI, api.RLO, api.PDI}, {api.RLO, api.B}, {api.RLE, api.LRI, api.RLE, api.LRO},
		deep, deep[:123], deep[:124], deep[:125], deep[:126], slices.Concat(deep[:124], []api.Class{api.RLO}), slices.Concat(deep[:123], []api.Class{api.LRO}),
		slices.Concat(deep[:125], []api.Class{api.LRI}), slices.Concat(deep[:125], []api.Class{api.RLE, api.LRI}), slices.Concat(many(130, api.LRO), []api.Class{api.RLI, api.RLI}),
	} {
		for _, base := range []api.Level{0, 1} {
			for _, auto := range []api.Level{0, 1} {
				for _, c := range every() {
					asModel(t, base, auto, append(slices.Clone(ahead), c, api.L, api.PDI, 0, api.PDF, api.R)...)
				}
			}
		}
	}
}

// asModel is whether each step, and all that is told between steps, are as the model has them; each FSI is told auto.
func asModel(t *testing.T, base, auto api.Level, l ...api.Class) {
	t.Helper()
	s, m := made(t, base), model{base: base}
	for at, c := range l {
		if got, want := step(s, c, auto), m.step(c, auto); got != want {
			t.Fatalf("%s at %d, auto %d: step %d answers %v, not %v", names(l), base, auto, at, got, want)
		}
		if got, want := stateOf(s), m.state(); got != want {
			t.Fatalf("%s at %d, auto %d: behind step %d %v, not %v", names(l), base, auto, at, got, want)
		}
	}
}

// P16.1, P16.2: all short lists of what does something.
func TestStepsOfAll(t *testing.T) {
	t.Parallel()
	letters := []api.Class{api.RLE, api.LRO, api.RLO, api.LRI, api.FSI, api.PDI, api.PDF, api.B, api.AL}
	for size := range 6 {
		for l := range trial.Words(letters, size) {
			asModel(t, api.Level(size%2), 1, l...)
			asModel(t, 1-api.Level(size%2), 0, l...)
		}
	}
}

// P16.1, P16.2: all short lists of what does something where there is room for one level, or for none.
func TestStepsOfAllAtTheEnd(t *testing.T) {
	t.Parallel()
	letters := []api.Class{api.RLO, api.LRE, api.RLI, api.FSI, api.PDI, api.PDF, api.L}
	for _, ahead := range [][]api.Class{
		many(62, api.LRE), many(62, api.LRI), many(62, api.RLI), many(62, api.RLI, api.LRE), slices.Concat(many(61, api.LRI, api.RLE), []api.Class{api.RLO, api.LRO}), many(30, api.LRI, api.LRE), many(63, api.LRI, api.RLE),
	} {
		for size := range 5 {
			for l := range trial.Words(letters, size) {
				all := slices.Concat(ahead, l)
				asModel(t, 0, 1, all...)
				asModel(t, 1, 0, all...)
			}
		}
	}
}

// P16.1, P16.2: long lists, nested deep and over again and again.
func TestStepsOfLong(t *testing.T) {
	t.Parallel()
	opening := []api.Class{api.RLE, api.LRE, api.RLO, api.LRO, api.RLI, api.LRI, api.FSI}
	closing := []api.Class{api.PDF, api.PDI, api.PDF, api.PDI, api.L, 0, api.BN}
	next := trial.Numbers()
	pick := func(n int) int { return int(next()>>8) % n }
	for round := range 400 {
		var l []api.Class
		kinds := 1 + pick(len(opening))
		for len(l) < 600 {
			for range pick(200) {
				l = append(l, opening[pick(kinds)])
			}
			for range pick(100) {
				l = append(l, closing[pick(len(closing))])
			}
			if pick(20) == 0 {
				l = append(l, api.B)
			}
		}
		asModel(t, api.Level(round%2), api.Level(round/2%2), l...)
	}
}

// P16.1: of FSI auto counts, and 1 alone is odd; of others it does not count.
func TestAuto(t *testing.T) {
	for n := math.MinInt8; n <= math.MaxInt8; n++ {
		for base, levels := range [][]api.Level{{2, 1}, {2, 3}} {
			s := made(t, api.Level(base))
			if got := step(s, api.FSI, api.Level(n)); got != (answer{api.Level(base), api.FSI, true}) {
				t.Error(n, base, got)
			}
			want := levels[0]
			if n == 1 {
				want = levels[1]
			}
			if s.Level() != want {
				t.Error(n, base, s.Level())
			}
		}
		for _, c := range every() {
			if c == api.FSI {
				continue
			}
			s, same := made(t, 0, api.RLE, api.LRI, api.RLO), made(t, 0, api.RLE, api.LRI, api.RLO)
			if got, want := step(s, c, api.Level(n)), step(same, c, 0); got != want || stateOf(s) != stateOf(same) {
				t.Error(n, c, got, want)
			}
		}
	}
}

// P16.1: at the level 124 an isolate has room to the right, none to the left; at 125 neither has.
func TestLastLevel(t *testing.T) {
	for _, c := range []struct {
		ahead []api.Class
		c     api.Class
		auto  api.Level
		want  state
	}{
		{many(62, api.LRE), api.RLE, 0, state{64, 125, 0, 0, 0}},
		{many(62, api.LRE), api.LRE, 0, state{63, 124, 0, 1, 0}},
		{many(62, api.LRE), api.RLI, 0, state{64, 125, 0, 0, 1}},
		{many(62, api.LRE), api.LRI, 0, state{63, 124, 1, 0, 0}},
		{many(62, api.LRE), api.FSI, 1, state{64, 125, 0, 0, 1}},
		{many(62, api.LRE), api.FSI, 0, state{63, 124, 1, 0, 0}},
		{many(62, api.RLE), api.LRE, 0, state{64, 124, 0, 0, 0}},
		{many(62, api.RLE), api.RLE, 0, state{64, 125, 0, 0, 0}},
		{many(63, api.RLE), api.RLE, 0, state{64, 125, 0, 1, 0}},
		{many(63, api.RLE), api.LRE, 0, state{64, 125, 0, 1, 0}},
		{many(63, api.RLI), api.RLI, 0, state{64, 125, 1, 0, 63}},
		{many(63, api.RLI), api.FSI, 1, state{64, 125, 1, 0, 63}},
		{many(63, api.RLI), api.FSI, 0, state{64, 125, 1, 0, 63}},
		{many(63, api.LRE), api.RLE, 0, state{63, 124, 0, 2, 0}}, // there was room for it, but for what is over
		{many(63, api.LRE), api.RLI, 0, state{63, 124, 1, 1, 0}},
		{many(63, api.LRI), api.RLE, 0, state{63, 124, 1, 0, 62}},
		{many(63, api.LRI), api.RLI, 0, state{63, 124, 2, 0, 62}},
	} {
		s := made(t, 0, c.ahead...)
		s.Step(c.c, c.auto)
		if got := stateOf(s); got != c.want {
			t.Error(names(c.ahead[:1]), names([]api.Class{c.c}), c.auto, got, c.want)
		}
	}
}

// P16.1: what a PDI takes off, and what a PDF leaves.
func TestEnds(t *testing.T) {
	const RLE, RLO, LRE, LRI, RLI, PDI, PDF, B = api.RLE, api.RLO, api.LRE, api.LRI, api.RLI, api.PDI, api.PDF, api.B
	for _, c := range []struct {
		l    []api.Class
		want state
	}{
		{[]api.Class{PDI}, state{1, 0, 0, 0, 0}},
		{[]api.Class{PDF}, state{1, 0, 0, 0, 0}},
		{[]api.Class{RLE, PDI}, state{2, 1, 0, 0, 0}},
		{[]api.Class{LRI, PDF}, state{2, 2, 0, 0, 1}},
		{[]api.Class{LRI, PDI, PDI}, state{1, 0, 0, 0, 0}},
		{[]api.Class{LRI, RLE, LRE, PDI}, state{1, 0, 0, 0, 0}},
		{[]api.Class{RLE, LRI, RLE, LRE, PDI}, state{2, 1, 0, 0, 0}},
		{[]api.Class{RLE, LRI, RLE, PDF, PDF, PDF}, state{3, 2, 0, 0, 1}},
		{[]api.Class{LRI, RLI, RLE, PDI}, state{2, 2, 0, 0, 1}},
		{[]api.Class{RLE, LRE, PDF, PDF, PDF}, state{1, 0, 0, 0, 0}},
		{[]api.Class{LRI, RLO, B}, state{1, 0, 0, 0, 0}},
		{append(many(70, RLE), B), state{1, 0, 0, 0, 0}},
		{append(many(70, RLI), B), state{1, 0, 0, 0, 0}},
		{append(many(70, RLE), PDF, PDF), state{64, 125, 0, 5, 0}},
		{append(many(70, RLE), PDI), state{64, 125, 0, 7, 0}},
		{append(many(70, RLI), PDI, PDF), state{64, 125, 6, 0, 63}},
		{append(append([]api.Class{LRI}, many(70, RLE)...), PDI), state{1, 0, 0, 0, 0}},                        // embeddings over end with the isolate
		{append(append([]api.Class{LRI}, many(70, RLE)...), LRI, RLE, PDF, PDI), state{64, 125, 0, 8, 1}},      // but not with one that is over
		{append(append([]api.Class{LRI}, many(70, RLE)...), LRI, RLE, PDF, PDI, PDF), state{64, 125, 0, 7, 1}}, // and go on being counted
	} {
		if got := stateOf(made(t, 0, c.l...)); got != c.want {
			t.Error(names(c.l), got, c.want)
		}
	}
}

// P16.1, P16.2, P0.1: a nil stack, and one that no call made.
func TestNone(t *testing.T) {
	var none *stack.Stack
	for _, s := range []*stack.Stack{none, {}, new(stack.Stack)} {
		for _, c := range every() {
			for _, auto := range []api.Level{0, 1, -1, 127} {
				if got := step(s, c, auto); got != (answer{api.Gone, 0, false}) {
					t.Error(c, auto, got)
				}
			}
		}
		if got := stateOf(s); got != (state{}) {
			t.Error(got)
		}
		if other := s.Copy(); other != nil {
			t.Error(other)
		}
	}
}

// P16.2: a copy goes its own way, and so does what it was made of.
func TestCopy(t *testing.T) {
	letters := []api.Class{api.RLO, api.LRE, api.LRI, api.FSI, api.PDI, api.PDF, api.B}
	for _, ahead := range [][]api.Class{nil, {api.RLE}, {api.RLO, api.LRI, api.RLO}, many(3, api.LRI, api.LRE), many(62, api.LRE), many(63, api.LRI), many(64, api.RLE, api.LRE), append(many(64, api.RLE), api.LRI)} {
		for one := range trial.Words(letters, 2) {
			for other := range trial.Words(letters, 2) {
				s, m := made(t, 1, ahead...), model{base: 1}
				for _, c := range ahead {
					m.step(c, 0)
				}
				n := model{base: 1, frames: slices.Clone(m.frames)}
				copied := s.Copy()
				for i := range one {
					if got, want := step(s, one[i], 0), m.step(one[i], 0); got != want || stateOf(s) != m.state() {
						t.Fatal(names(ahead), names(one), got, want)
					}
					if got, want := step(copied, other[i], 1), n.step(other[i], 1); got != want || stateOf(copied) != n.state() {
						t.Fatal(names(ahead), names(other), got, want)
					}
				}
			}
		}
	}
}

// P16.2: what a copy takes off and puts on does not come back in what it was made of, nor the other way.
func TestCopyIsApart(t *testing.T) {
	s := made(t, 0, api.RLE, api.LRE, api.RLE, api.LRE)
	copied := s.Copy()
	for range 4 {
		copied.Step(api.PDF, 0)
	}
	for range 4 {
		copied.Step(api.RLO, 0)
	}
	for level := api.Level(4); level > 0; level-- {
		if got := step(s, api.L, 0); got != (answer{level, api.L, true}) {
			t.Error(level, got)
		}
		s.Step(api.PDF, 0)
	}
	s.Step(api.LRO, 0)
	for _, level := range []api.Level{7, 5, 3, 1} {
		if got := step(copied, api.L, 0); got != (answer{level, api.R, true}) {
			t.Error(level, got)
		}
		copied.Step(api.PDF, 0)
	}
	if again := copied.Copy().Copy(); stateOf(again) != (state{depth: 1}) || again == copied {
		t.Error(stateOf(again))
	}
}

package stack_test

import (
	"slices"
	"testing"

	"furrow/api"
	"furrow/trial"
)

// lists are lists of classes without a plain order, some nested beyond the limit.
func lists(count, size int, letters ...api.Class) [][]api.Class {
	next := trial.Numbers()
	var out [][]api.Class
	for range count {
		kinds := 1 + int(next()>>8)%len(letters)
		l := make([]api.Class, int(next()>>8)%size)
		for i := range l {
			l[i] = letters[int(next()>>8)%kinds]
		}
		out = append(out, l)
	}
	return out
}

// P16.4: levels and depths lie where they must, and just what X9 removes is gone.
func TestBounds(t *testing.T) {
	all := []api.Class{api.RLE, api.LRI, api.RLO, api.FSI, api.LRE, api.RLI, api.LRO, api.PDI, api.PDF, api.BN, api.B, api.L, api.R, api.AL, api.EN, api.ES, api.ET, api.AN, api.CS, api.NSM, api.S, api.WS, api.ON, 0, 24, 200}
	for _, l := range append(lists(600, 500, all...), every()) {
		for base := range api.Level(2) {
			x := explicit(t, base, l...)
			s := made(t, base)
			for at, c := range l {
				told := step(s, c, api.Level(at%2))
				for _, level := range []api.Level{x.Levels[at], told.level} {
					if (level == api.Gone) != isRemoved(c) || level != api.Gone && (level < base || level > 125) {
						t.Fatal(names(l), at, level)
					}
				}
				_, _, valid := s.Over()
				if s.Depth() < 1 || s.Depth() > 126 || s.Depth() < valid+1 || told.kept == isRemoved(c) {
					t.Fatal(names(l), at, stateOf(s))
				}
				if class := x.Classes[at]; isRemoved(c) && class != c || !isRemoved(c) && (class < api.L || class > api.PDI || isRemoved(class)) {
					t.Fatal(names(l), at, class)
				}
			}
		}
	}
}

// P16.5: an isolate's end has its beginning's level and its override, and what stands behind it is as if nothing stood between.
func TestClosed(t *testing.T) {
	letters := []api.Class{api.LRI, api.PDI, api.RLO, api.FSI, api.PDI, api.LRE, api.RLI, api.R, api.PDF, api.LRO, api.L, api.B}
	all := lists(800, 60, letters...)
	for _, l := range lists(200, 12, letters...) {
		all = append(all, slices.Concat(many(62, api.RLE, api.LRE), l, many(5, api.PDI, api.L)), slices.Concat(many(61, api.LRI), l, many(9, api.PDI, api.L)))
	}
	for short := range trial.Words([]api.Class{api.LRI, api.PDI, api.RLO, api.FSI, api.PDF, api.R}, 5) {
		all = append(all, short)
	}
	ends := 0
	for _, l := range all {
		for base := range api.Level(2) {
			x := explicit(t, base, l...)
			for begin, end := range modelEnds(l) {
				if end <= begin || end == len(l) {
					continue
				}
				ends++
				isClosed(t, base, l, x, begin, end)
			}
		}
	}
	if ends < 1000 {
		t.Error(ends)
	}
}

func isClosed(t *testing.T, base api.Level, l []api.Class, x api.Explicit, begin, end int) {
	t.Helper()
	turned := x.Classes[begin] != l[begin]
	if x.Levels[begin] != x.Levels[end] || turned != (x.Classes[end] != l[end]) || turned && x.Classes[begin] != x.Classes[end] {
		t.Fatal(names(l), begin, end, x)
	}
	without := explicit(t, base, slices.Concat(l[:begin+1], l[end:])...)
	if !slices.Equal(without.Levels[begin+1:], x.Levels[end:]) || !slices.Equal(without.Classes[begin+1:], x.Classes[end:]) || !slices.Equal(without.Levels[:begin+1], x.Levels[:begin+1]) {
		t.Fatalf("%s at %d, %d to %d: %v, without %v", names(l), base, begin, end, x.Levels, without.Levels)
	}
}

// P16.6: while isolates are over, embeddings, overrides and their ends do nothing, and each isolate that is over is closed by its own PDI.
func TestOver(t *testing.T) {
	idle := []api.Class{api.RLE, api.LRE, api.RLO, api.LRO, api.PDF}
	for _, ahead := range [][]api.Class{many(62, api.RLE, api.LRE, api.RLE), many(70, api.RLI), many(70, api.LRI), many(40, api.LRI, api.LRE), many(63, api.LRO), many(130, api.RLO)} {
		s := made(t, 0, append(slices.Clone(ahead), api.LRI)...)
		before, told := stateOf(s), step(s, api.L, 0)
		if before.isolates < 1 {
			t.Fatal(names(ahead), before)
		}
		for l := range trial.Words(idle, 3) {
			for _, c := range l {
				if got := step(s, c, 0); got != (answer{api.Gone, c, false}) || stateOf(s) != before {
					t.Fatal(names(ahead), names(l), got, stateOf(s))
				}
			}
			for depth := 1; depth < 4; depth++ {
				for range depth {
					s.Step([]api.Class{api.LRI, api.RLI, api.FSI}[depth%3], 0)
					s.Step(l[depth%3], 0)
				}
				if got := stateOf(s); got.isolates != before.isolates+depth || got.embeddings != before.embeddings {
					t.Fatal(names(ahead), depth, got)
				}
				for range depth {
					s.Step(l[0], 0)
					s.Step(api.PDI, 0)
				}
				if got := step(s, api.L, 0); got != told || stateOf(s) != before {
					t.Fatal(names(ahead), depth, got, stateOf(s))
				}
			}
		}
	}
}

// P16.6: what overflows changes no level: whatever is begun and ended beyond the limit, what stands in it has the level and the class that it has without it.
func TestOverChangesNothing(t *testing.T) {
	for _, ahead := range [][]api.Class{append(many(62, api.RLE, api.LRE), api.RLE), append(many(62, api.RLE, api.LRE), api.RLO), many(63, api.RLI), append(many(62, api.RLI, api.LRE), api.RLI)} {
		want := step(made(t, 0, ahead...), api.L, 0)
		if want.level != 125 {
			t.Fatal(names(ahead), want)
		}
		s := made(t, 0, ahead...)
		for _, c := range append(many(5, api.RLE, api.LRI, api.LRO, api.FSI, api.RLI, api.RLO), many(15, api.PDI)...) {
			if told := step(s, c, 1); told.kept && told.level != 125 {
				t.Error(names(ahead), c, told)
			}
			if got := step(s, api.L, 0); got != want {
				t.Error(names(ahead), c, got, want)
			}
		}
		for range 5 { // ahead of the first isolate one embedding was over, behind it none was begun
			if got := step(s, api.L, 0); got != want {
				t.Error(names(ahead), got, want)
			}
		}
		if got := stateOf(s); got.isolates != 0 || got.embeddings != 1 {
			t.Error(names(ahead), got)
		}
	}
}

// P16.7: the explicit levels of a list's beginning are the beginning of the list's, if all its FSIs have their end, or a B, in it.
func TestBeginnings(t *testing.T) {
	letters := []api.Class{api.LRI, api.PDI, api.RLO, api.FSI, api.PDI, api.LRE, api.R, api.PDF, api.L, api.B, 0}
	all := append(lists(500, 40, letters...), many(70, api.LRI, api.RLE, api.PDI, api.LRO), append(many(65, api.RLI), many(65, api.PDI)...))
	for _, l := range all {
		for base := range api.Level(2) {
			x := explicit(t, base, l...)
			for to := range len(l) + 1 {
				if hasOpenFSI(l[:to]) {
					continue
				}
				begin := explicit(t, base, l[:to]...)
				if !slices.Equal(begin.Levels, x.Levels[:to]) || !slices.Equal(begin.Classes, x.Classes[:to]) {
					t.Fatalf("%s at %d up to %d: %v, not %v", names(l), base, to, begin, x)
				}
			}
		}
	}
}

// hasOpenFSI is whether an FSI of l has neither an end nor a B behind it.
func hasOpenFSI(l []api.Class) bool {
	for at, end := range modelEnds(l) {
		if l[at] == api.FSI && end == len(l) && !slices.Contains(l[at:], api.B) {
			return true
		}
	}
	return false
}

package stack_test

import (
	"slices"
	"testing"

	"furrow/api"
	"furrow/stack"
	"furrow/trial"
)

// mixed is a list in which something of each kind happens.
func mixed() []api.Class {
	return []api.Class{api.RLO, api.FSI, api.R, 0, api.PDI, api.LRI, api.LRE, 99, api.PDI, api.PDF, api.B, api.FSI, api.AL}
}

// P0.1: what is handed in stays as it was, and so does what stands behind it, which is no part of it.
func TestHandedIn(t *testing.T) {
	all := append(mixed(), api.PDI, api.L, api.B)
	were := slices.Clone(all)
	l := all[:len(mixed())]
	got := explicit(t, 0, l...)
	explicit(t, 1, l...)
	stack.Explicit(2, l...)
	if !slices.Equal(all, were) {
		t.Error(names(all))
	}
	if want := modelExplicit(0, mixed()); !sameExplicit(got, want) {
		t.Error(got, want)
	}
}

// P0.1: an answer is new memory each time, the room behind it too.
func TestAnswersAreNew(t *testing.T) {
	l := mixed()
	kept, one := explicit(t, 1, l...), explicit(t, 1, l...)
	want := modelExplicit(1, l)
	fill(one.Levels, 77)
	fill(one.Classes, api.CS)
	fill(one.Match, 77)
	if !sameExplicit(kept, want) || !sameExplicit(explicit(t, 1, l...), want) || !slices.Equal(l, mixed()) {
		t.Error(kept, want, names(l))
	}
	clear(l)
	if !sameExplicit(kept, want) {
		t.Error(kept, want)
	}
}

// fill writes over l and the room behind it.
func fill[T any](l []T, x T) {
	whole := l[:cap(l)]
	for i := range whole {
		whole[i] = x
	}
}

// P0.1: what a call answers hangs on its arguments, and on what was called of the same stack, alone.
func TestCallsAreApart(t *testing.T) {
	s := made(t, 0, api.RLE, api.LRI)
	want := modelExplicit(0, mixed())
	for range 3 {
		other := made(t, 1, many(130, api.RLO)...)
		other.Step(api.PDI, 0)
		if got := explicit(t, 0, mixed()...); !sameExplicit(got, want) {
			t.Error(got)
		}
		if stateOf(s) != (state{depth: 3, level: 2, valid: 1}) || stateOf(made(t, 1)) != (state{depth: 1, level: 1}) {
			t.Error(stateOf(s))
		}
	}
}

// P0.1: what is asked changes nothing.
func TestAskingChangesNothing(t *testing.T) {
	letters := []api.Class{api.RLO, api.LRI, api.PDI, api.PDF, api.L}
	for l := range trial.Words(letters, 4) {
		s, plain := made(t, 0), made(t, 0)
		for _, c := range l {
			before := stateOf(s)
			s.Copy().Step(api.LRO, 0)
			if stateOf(s) != before || step(s, c, 0) != step(plain, c, 0) || stateOf(s) != stateOf(plain) {
				t.Fatal(names(l))
			}
		}
	}
}

// P0.1: the layer's error is of its own numbers.
func TestErrors(t *testing.T) {
	if _, why := stack.New(2); why != 160 || why.Error() != "error 160" {
		t.Error(why)
	}
	if _, why := stack.Explicit(-1); why != 160 {
		t.Error(why)
	}
	if _, why := stack.Explicit(1, make([]api.Class, api.MaxText+1)...); why != 4 {
		t.Error(why)
	}
}

// P0.1: many at a time answer what each alone does.
func TestAtOnce(t *testing.T) {
	l := slices.Concat(mixed(), many(70, api.FSI, api.RLE), mixed())
	want := explicit(t, 0, l...)
	shared := made(t, 0, api.RLO, api.LRI, api.RLE)
	done := make(chan bool)
	for range 4 {
		go func() {
			good := true
			for range 100 {
				got, why := stack.Explicit(0, l...)
				s := shared.Copy()
				level, _, _ := s.Step(api.PDI, 0)
				good = good && why == api.OK && sameExplicit(got, want) && level == 1 && s.Depth() == 2 && shared.Depth() == 4
			}
			done <- good
		}()
	}
	for range 4 {
		if !<-done {
			t.Error("not the same")
		}
	}
}

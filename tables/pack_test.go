package tables_test

import (
	"fmt"
	"math"
	"testing"

	"furrow/api"
	"furrow/tables"
	"furrow/trial"
)

// isPacked holds Pack of p against the words of w, whose values are what p tells.
func isPacked(t *testing.T, what string, p api.Props, w world) api.Errno {
	t.Helper()
	got, r, why := tables.Pack(p)
	return isMade(t, what, got, r, why, w)
}

// 14.2: no props.
func TestPackOfNil(t *testing.T) {
	got, r, why := tables.Pack(nil)
	isRefused(t, "nil", got, r, why, 0, api.ErrNil)
}

// 14.2, 14.6: props of all sorts; what is told beside None and beside false does not count.
func TestPack(t *testing.T) {
	for what, w := range map[string]world{"round": round(), "plain": newWorld(api.AL)} {
		for whatToo, p := range map[string]api.Props{"as it is": w.props(), "chatty": w.chatty()} {
			if why := isPacked(t, what+" "+whatToo, p, w); why != api.OK {
				t.Errorf("%s %s: %v", what, whatToo, why)
			}
		}
	}
	got, r, why := tables.Pack(round().chatty())
	if got == nil || r != 0 || why != api.OK {
		t.Fatal(r, why)
	}
	w := round()
	for r := range rune(count) {
		isAt(t, "chatty", got, w, r, r)
	}
}

// 14.2: each number from 0 to MaxRune is asked all four things, and no other number is, be there something wrong or not.
func TestPackAsksEachNumber(t *testing.T) {
	for what, c := range map[string]struct {
		change func(w world)
		why    api.Errno
	}{
		"round":       {func(w world) {}, api.OK},
		"wrong at 0":  {func(w world) { w.class[0] = 0 }, api.ErrPacked},
		"amiss at 0":  {func(w world) { w.mirror[0] = 1 }, api.ErrAmiss},
		"amiss at 28": {func(w world) { w.bracket[0x28] = 0 }, api.ErrAmiss},
	} {
		w := round()
		c.change(w)
		p := w.props()
		asked := [4][]bool{}
		for i := range asked {
			asked[i] = make([]bool, count)
		}
		_, _, why := tables.Pack(teller{
			class:   func(r rune) api.Class { asked[0][r] = true; return p.class(r) },
			bracket: func(r rune) (rune, api.Side) { asked[1][r] = true; return p.bracket(r) },
			twin:    func(r rune) rune { asked[2][r] = true; return p.twin(r) },
			mirror:  func(r rune) (rune, bool) { asked[3][r] = true; return p.mirror(r) },
		})
		if why != c.why {
			t.Errorf("%s: %v", what, why)
		}
		for i, list := range asked {
			for r, is := range list {
				if !is {
					t.Fatalf("%s: %X is not asked the %dth thing", what, r, i+1)
				}
			}
		}
	}
}

// outside are numbers that no table can tell.
func outside() []rune { return []rune{-1, count, math.MinInt32, math.MaxInt32} }

// 14.2: what can't be said, at the first number and at the last one.
func TestPackOfWhatCantBe(t *testing.T) {
	t.Parallel()
	for _, at := range []rune{0, last} {
		for _, c := range []api.Class{0, 24, 255} {
			p := newWorld(api.ON).props()
			p.class = func(r rune) api.Class {
				if r == at {
					return c
				}
				return api.R
			}
			isCant(t, fmt.Sprintf("the class %d at %X", c, at), p, at)
		}
		for _, side := range []api.Side{3, 4, 255} {
			isCant(t, fmt.Sprintf("the side %d at %X", side, at), withBracket(at, 0x28, side), at)
		}
		isCant(t, fmt.Sprintf("the side 3 of 0 at %X", at), withBracket(at, 0, 3), at)
		isCant(t, fmt.Sprintf("the side 3 of -1 at %X", at), withBracket(at, -1, 3), at)
		for _, r := range outside() {
			isCant(t, fmt.Sprintf("%X opens %X", at, r), withBracket(at, r, api.Opens), at)
			isCant(t, fmt.Sprintf("%X closes %X", at, r), withBracket(at, r, api.Closes), at)
			isCant(t, fmt.Sprintf("the twin %X of %X", r, at), withTwin(at, r), at)
			isCant(t, fmt.Sprintf("the mirror %X of %X", r, at), withMirror(at, r, true), at)
		}
	}
}

// isCant is whether Pack refuses p for what it tells of r.
func isCant(t *testing.T, what string, p api.Props, wantR rune) {
	t.Helper()
	got, r, why := tables.Pack(p)
	isRefused(t, what, got, r, why, wantR, api.ErrPacked)
}

// withBracket is props that tell nothing but that of the number at.
func withBracket(at, other rune, side api.Side) teller {
	p := newWorld(api.ON).props()
	p.bracket = func(r rune) (rune, api.Side) {
		if r == at {
			return other, side
		}
		return 0, api.None
	}
	return p
}

func withTwin(at, twin rune) teller {
	p := newWorld(api.ON).props()
	p.twin = func(r rune) rune {
		if r == at {
			return twin
		}
		return r
	}
	return p
}

func withMirror(at, to rune, is bool) teller {
	p := newWorld(api.ON).props()
	p.mirror = func(r rune) (rune, bool) {
		if r == at {
			return to, is
		}
		return 0, false
	}
	return p
}

// 14.2: the same numbers beside None and beside false, and a number that is its own twin: nothing is wrong.
func TestPackOfWhatDoesNotCount(t *testing.T) {
	t.Parallel()
	w := newWorld(api.ON)
	for _, at := range []rune{0, last} {
		for _, r := range append(outside(), 0, at, 0x28, last) {
			isPacked(t, fmt.Sprintf("%X beside None of %X", r, at), withBracket(at, r, api.None), w)
			isPacked(t, fmt.Sprintf("%X beside false of %X", r, at), withMirror(at, r, false), w)
		}
		isPacked(t, fmt.Sprintf("%X, its own twin", at), withTwin(at, at), w)
	}
}

// 14.2: what is amiss, of props, at the first number and the last; itself as its own other one, and as its own mirror, can be said.
func TestPackOfAmiss(t *testing.T) {
	t.Parallel()
	for _, at := range []rune{0, 0x41, last} {
		for what, p := range map[string]api.Props{
			"opens what is no bracket":  withBracket(at, 0x42, api.Opens),
			"closes what is no bracket": withBracket(at, 0x42, api.Closes),
			"opens itself":              withBracket(at, at, api.Opens),
			"closes itself":             withBracket(at, at, api.Closes),
			"is no bracket, has a twin": withTwin(at, 0x42),
			"is its own mirror":         withMirror(at, at, true),
		} {
			got, r, why := tables.Pack(p)
			isRefused(t, fmt.Sprintf("%X %s", at, what), got, r, why, at, api.ErrAmiss)
		}
	}
}

// 14.2: the least number is told, of whichever thing; what can't be said ahead of what is amiss, at whichever number.
func TestPackTellsTheLeast(t *testing.T) {
	t.Parallel()
	for _, c := range []struct {
		class, bracket, twin, mirror, want rune
	}{
		{1, 2, 3, 4, 1}, {4, 1, 2, 3, 1}, {3, 4, 1, 2, 1}, {2, 3, 4, 1, 1}, {last, last, last, last, last}, {0, last, last, last, 0}, {last, last, last, 0, 0},
	} {
		p := teller{class: func(r rune) api.Class {
			if r == c.class {
				return 0
			}
			return api.ON
		}, bracket: withBracket(c.bracket, 0, 3).bracket, twin: withTwin(c.twin, -1).twin, mirror: withMirror(c.mirror, count, true).mirror}
		isCant(t, fmt.Sprintf("%X", c), p, c.want)
	}
	p := withMirror(last, -1, true)
	p.twin = withTwin(0, 5).twin
	isCant(t, "amiss at 0, wrong at the last", p, last)
}

// 14.2, 14.6: tables, packed again, are the same; and what can't be made by Over can't be by Pack.
func TestPackIsAsOver(t *testing.T) {
	t.Parallel()
	next := trial.Numbers()
	pick := func(bound int) int { return int(next()>>8) % bound }
	for n := range 24 {
		w := someThatFit(pick)
		if n%2 == 0 {
			w.bracket[[]rune{0, 0x28, 0x40, last}[pick(4)]] = int32(pick(0x30)) - 0x10
		}
		isPacked(t, fmt.Sprint(n), w.chatty(), w)
		got, r, why := tables.Over(w.packed())
		if isMade(t, fmt.Sprint(n), got, r, why, w) == api.OK {
			isPacked(t, fmt.Sprint(n, " again"), got, w)
		}
	}
}

package paras_test

import (
	"slices"
	"strings"
	"testing"

	"furrow/api"
	"furrow/base"
	"furrow/paras"
	"furrow/tables"
	"furrow/trial"
)

// roomy is l with room behind it that holds things.
func roomy[T any](l []T, behind T) ([]T, []T) {
	all := append(slices.Clone(l), behind, behind, behind)
	return all[:len(l)], all
}

// P0.1: what is handed in stays as it was, the room behind it too.
func TestHandedIn(t *testing.T) {
	runes, allRunes := roomy([]rune{'a', 13, 10, -1, '<', 'a', '>'}, 10)
	classes, allClasses := roomy([]api.Class{api.L, api.B, api.B, 0, api.LRI, 99, api.PDI}, api.B)
	runesWere, classesWere := slices.Clone(allRunes), slices.Clone(allClasses)
	paras.Classes(props(), runes)
	paras.Split(runes, classes)
	paras.Split(nil, classes)
	paras.Split(runes[:2], classes)
	paras.Match(classes)
	paras.First(classes, piece(0, 7))
	paras.First(classes, piece(0, 8))
	paras.Level(classes, api.Auto)
	if !slices.Equal(allRunes, runesWere) || !slices.Equal(allClasses, classesWere) {
		t.Errorf("%X, %v", allRunes, allClasses)
	}
}

// P0.1: what stands behind a list is no part of it.
func TestRoomBehind(t *testing.T) {
	runes, _ := roomy([]rune{'a', 13}, 10)
	classes, _ := roomy([]api.Class{api.LRI, api.B}, api.B)
	if got, why := paras.Split(runes, classes); !slices.Equal(got, []api.Piece{piece(0, 2)}) || why != api.OK {
		t.Error(got, why)
	}
	isolate, _ := roomy([]api.Class{api.LRI}, api.PDI)
	if got := paras.Match(isolate); !slices.Equal(got, []int{1}) {
		t.Error(got)
	}
	nothing, _ := roomy([]api.Class{}, api.R)
	if l, why := paras.Level(nothing, api.Auto); l != 0 || why != api.OK {
		t.Error(l, why)
	}
}

// P0.1: answers are new memory each time, the room behind them too.
func TestAnswersAreNew(t *testing.T) {
	runes, classes := []rune{'a', 13, 10}, []api.Class{api.LRI, api.B, api.PDI}
	isNew(t, "Runes", func() []rune { return paras.Runes("a\xff\n") }, 7)
	isNew(t, "Classes", func() []api.Class { l, _ := paras.Classes(props(), runes); return l }, 7)
	isNew(t, "Split", func() []api.Piece { l, _ := paras.Split(runes, classes); return l }, piece(7, 7))
	isNew(t, "Split without runes", func() []api.Piece { l, _ := paras.Split(nil, classes); return l }, piece(7, 7))
	isNew(t, "Match", func() []int { return paras.Match(classes) }, 7)
	if !slices.Equal(runes, []rune{'a', 13, 10}) || !slices.Equal(classes, []api.Class{api.LRI, api.B, api.PDI}) {
		t.Errorf("%X, %v", runes, classes)
	}
}

// isNew is whether what is answered twice stays as it is when one of the two is written over.
func isNew[T comparable](t *testing.T, what string, answer func() []T, other T) {
	t.Helper()
	kept, one := answer(), answer()
	want := slices.Clone(kept)
	whole := one[:cap(one)]
	for i := range whole {
		whole[i] = other
	}
	if len(want) == 0 || !slices.Equal(kept, want) || !slices.Equal(answer(), want) {
		t.Errorf("%s: %v, not %v", what, kept, want)
	}
}

// P0.1: what was handed in is not kept: written over, it changes no answer.
func TestNothingIsKept(t *testing.T) {
	runes, classes := []rune{'a', 13, 10}, []api.Class{api.L, api.B, api.B}
	pieces, _ := paras.Split(runes, classes)
	match := paras.Match(classes)
	told, _ := paras.Classes(props(), runes)
	clear(runes)
	clear(classes)
	if !slices.Equal(pieces, []api.Piece{piece(0, 3)}) || !slices.Equal(match, []int{-1, -1, -1}) || !slices.Equal(told, []api.Class{api.L, api.B, api.B}) {
		t.Error(pieces, match, told)
	}
}

// P0.1: an iterator tells what there is when going over it begins: props are asked anew each time.
func TestEachAsksAnew(t *testing.T) {
	class := api.B
	paragraphs := paras.Each(teller(func(rune) api.Class { return class }), "abc")
	for _, c := range []struct {
		class api.Class
		want  int
	}{{api.B, 3}, {api.L, 1}, {0, 1}, {api.B, 3}} {
		class = c.class
		if told := trial.Collect(paragraphs); len(told) != c.want {
			t.Error(c, told)
		}
	}
}

// P0.1: calls end with props that tell something else each time.
func TestUnsteadyProps(t *testing.T) {
	next := trial.Numbers()
	unsteady := teller(func(rune) api.Class { return api.Class(next() >> 8) })
	few := teller(func(rune) api.Class { return api.NSM + api.Class(next()>>8%4) })
	for _, p := range []api.Props{unsteady, few} {
		for range 50 {
			at := 0
			for s := range paras.Each(p, "\r\n\r\n\xff\r\n\r\na") {
				if s.From != at || s.To <= at {
					t.Error(s)
				}
				at = s.To
			}
			if l, why := paras.Classes(p, []rune{13, 10, -1}); len(l) != 3 || why != api.OK || at != 10 {
				t.Error(l, why, at)
			}
		}
	}
}

// P15.1, P15.3: tables and bases are props; nil ones, which tell no class, are props, too.
func TestPropsOfTheLayersBelow(t *testing.T) {
	made, _, _ := tables.Hand(api.ON, []api.Entry{{From: 'a', To: 'z', Class: api.L}, {From: 10, To: 13, Class: api.B}, {From: 0xFFFD, To: 0xFFFD, Class: api.R}}, nil, nil, nil)
	got, why := paras.Classes(made, []rune{'b', 13, 10, -1, 0xFFFD, 0x110000, 0})
	if !slices.Equal(got, []api.Class{api.L, api.B, api.B, api.R, api.R, api.R, api.ON}) || why != api.OK {
		t.Error(got, why)
	}
	var noTables *tables.Tables
	var noBase *base.Base
	for _, p := range []api.Props{noTables, noBase} {
		if got, why := paras.Classes(p, []rune{'b', 13}); !slices.Equal(got, []api.Class{api.ON, api.ON}) || why != api.OK {
			t.Error(got, why)
		}
		if told := trial.Collect(paras.Each(p, "a\r\nb")); len(told) != 1 || told[0].B != "a\r\nb" {
			t.Error(told)
		}
	}
}

// P0.1: what a call answers hangs on its arguments alone.
func TestCallsAreApart(t *testing.T) {
	classes := []api.Class{api.LRI, api.R, api.PDI, api.AL, api.B, api.L}
	for range 2 {
		paras.Match([]api.Class{api.LRI, api.LRI, api.LRI})
		paras.Level([]api.Class{api.LRI}, api.Auto)
		paras.First([]api.Class{api.FSI, api.L}, piece(0, 2))
		for range paras.Each(props(), "\r\n\r") {
			break
		}
		l, _ := paras.Level(classes, api.Auto)
		at, is, _ := paras.First(classes, piece(0, 6))
		s, _ := paras.Split(nil, classes)
		if l != 1 || at != 3 || !is || !slices.Equal(paras.Match(classes), []int{2, -1, 0, -1, -1, -1}) || len(s) != 2 {
			t.Error(l, at, is, s)
		}
	}
}

// Lists beyond MaxText: no promise of this chapter names an error of them, so they are answered as others are; and not in more time than what goes through them once.
func TestManyCharacters(t *testing.T) {
	t.Parallel()
	const size = api.MaxText + 1
	begins, ends := slices.Repeat([]api.Class{api.FSI}, size), slices.Repeat([]api.Class{api.PDI}, size)
	deep := slices.Concat(begins, []api.Class{api.L}, ends, []api.Class{api.B, api.R})
	match := paras.Match(deep)
	for i := range size {
		if match[i] != 2*size-i || match[2*size-i] != i {
			t.Fatal(i, match[i])
		}
	}
	if at, is, why := paras.First(deep, piece(0, len(deep))); at != 2*size+2 || !is || why != api.OK {
		t.Error(at, is, why)
	}
	if l, why := paras.Level(deep, api.Auto); l != 1 || why != api.OK {
		t.Error(l, why)
	}
	if s, why := paras.Split(nil, deep); !slices.Equal(s, []api.Piece{piece(0, 2*size+2), piece(2*size+2, 2*size+3)}) || why != api.OK {
		t.Error(s, why)
	}
	if l, why := paras.Classes(props(), make([]rune, size)); len(l) != size || why != api.OK {
		t.Error(len(l), why)
	}
	told := 0
	for s, bytes := range paras.Each(props(), strings.Repeat("a", size)+"\n"+strings.Repeat("\r\n", size)) {
		if told == 0 && (s != piece(0, size+1) || len(bytes) != size+1) || told > 0 && bytes != "\r\n" {
			t.Fatal(told, s)
		}
		told++
	}
	if told != size+1 {
		t.Error(told)
	}
}

// P0.1: many at a time answer what each alone does.
func TestAtOnce(t *testing.T) {
	text := "a\r\n<\u05d0>\xff\n\ra"
	shared := paras.Each(props(), text)
	want := trial.Collect(shared)
	classes, _ := paras.Classes(props(), paras.Runes(text))
	match := paras.Match(classes)
	done := make(chan bool)
	for range 4 {
		go func() {
			good := true
			for range 100 {
				l, _ := paras.Level(classes, api.Auto)
				good = good && slices.Equal(trial.Collect(shared), want) && slices.Equal(paras.Match(classes), match) && l == 0
			}
			done <- good
		}()
	}
	for range 4 {
		if !<-done {
			t.Error("not the same")
		}
	}
}

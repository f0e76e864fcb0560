package paras_test

import (
	"math"
	"slices"
	"strings"
	"testing"

	"furrow/api"
	"furrow/paras"
	"furrow/trial"
)

// P15.1: no bytes, right ones, and wrong ones.
func TestRunes(t *testing.T) {
	for text, want := range map[string][]rune{
		"":                       nil,
		"a\r\n":                  {'a', 13, 10},
		"é\xff":                  {0xE9, 0xFFFD},
		"\xef\xbf\xbd":           {0xFFFD},
		"\xe2\x82":               {0xFFFD, 0xFFFD},
		"\xed\xa0\x80":           {0xFFFD, 0xFFFD, 0xFFFD},
		"\x00\U0010ffff\xc3a":    {0, 0x10FFFF, 0xFFFD, 'a'},
		"\xf4\x90\x80\x80\u2029": {0xFFFD, 0xFFFD, 0xFFFD, 0xFFFD, 0x2029},
	} {
		if l := paras.Runes(text); !slices.Equal(l, want) {
			t.Errorf("%q: %X, not %X", text, l, want)
		}
	}
}

// P15.1: the characters of texts of all sorts, as a range over them has them.
func TestRunesOfTexts(t *testing.T) {
	for text := range trial.Texts() {
		var want []rune
		for _, told := range trial.Ranged(text) {
			want = append(want, told.B)
		}
		if l := paras.Runes(text); !slices.Equal(l, want) {
			t.Fatalf("%q: %X, not %X", text, l, want)
		}
	}
}

// P15.1: no props, and no runes.
func TestClassesOfNone(t *testing.T) {
	for _, l := range [][]rune{nil, {}, {'a'}} {
		if got, why := paras.Classes(nil, l); got != nil || why != api.ErrNil {
			t.Error(got, why)
		}
	}
	for _, l := range [][]rune{nil, {}} {
		if got, why := paras.Classes(props(), l); len(got) != 0 || why != api.OK {
			t.Error(got, why)
		}
	}
}

// P15.1: runes that props know, a surrogate, and such as lie outside, of which FFFD's class is asked.
func TestClasses(t *testing.T) {
	text := []rune{'a', 0x5D0, 0x627, 13, 10, 0xD800, 0xDFFF, '<', '>', ' ', 0, 0x10FFFF}
	want := []api.Class{api.L, api.R, api.AL, api.B, api.B, api.L, api.ON, api.LRI, api.PDI, api.ON, api.ON, api.ON}
	if got, why := paras.Classes(props(), text); !slices.Equal(got, want) || why != api.OK {
		t.Error(got, why)
	}
	for _, r := range []rune{-1, math.MinInt32, api.MaxRune + 1, math.MaxInt32} {
		for _, c := range []api.Class{api.ON, api.R, api.B} {
			got, why := paras.Classes(propsWith(0xFFFD, c), []rune{r, 'a', r})
			if !slices.Equal(got, []api.Class{c, api.L, c}) || why != api.OK {
				t.Errorf("%X: %v, %d", r, got, why)
			}
		}
	}
}

// P15.1: props are asked of no number but those from 0 to MaxRune.
func TestClassesAsks(t *testing.T) {
	var asked []rune
	p := teller(func(r rune) api.Class {
		asked = append(asked, r)
		return api.L
	})
	l := []rune{0, -1, 0xD800, api.MaxRune, api.MaxRune + 1, math.MinInt32, math.MaxInt32}
	if got := well[[]api.Class](t)(paras.Classes(p, l)); len(got) != len(l) {
		t.Error(got)
	}
	if !slices.Equal(asked, []rune{0, 0xFFFD, 0xD800, api.MaxRune, 0xFFFD, 0xFFFD, 0xFFFD}) {
		t.Errorf("%X", asked)
	}
}

// P15.1: each class is told as it is, and ON is told in the place of what is none.
func TestClassesOfAll(t *testing.T) {
	p := teller(func(r rune) api.Class { return api.Class(r) })
	for _, c := range every() {
		want := c
		if c == 0 || c > api.Classes {
			want = api.ON
		}
		if got, why := paras.Classes(p, []rune{rune(c)}); !slices.Equal(got, []api.Class{want}) || why != api.OK {
			t.Error(c, got, why)
		}
	}
}

// P15.2: what the chapter and the issue name.
func TestSplit(t *testing.T) {
	const B, L, ON = api.B, api.L, api.ON
	for _, c := range []struct {
		l       []rune
		classes []api.Class
		want    []api.Piece
	}{
		{[]rune{'a', 13, 10, 'a'}, []api.Class{L, B, B, L}, []api.Piece{piece(0, 3), piece(3, 4)}},
		{nil, []api.Class{L, B, B, L}, []api.Piece{piece(0, 2), piece(2, 3), piece(3, 4)}},
		{[]rune{}, []api.Class{L, B, B, L}, []api.Piece{piece(0, 2), piece(2, 3), piece(3, 4)}},
		{[]rune{'a', 10, 13, 'a'}, []api.Class{L, B, B, L}, []api.Piece{piece(0, 2), piece(2, 3), piece(3, 4)}},
		{nil, nil, nil},
		{[]rune{}, []api.Class{}, nil},
		{nil, []api.Class{L}, []api.Piece{piece(0, 1)}},
		{nil, []api.Class{B}, []api.Piece{piece(0, 1)}},
		{[]rune{'a'}, []api.Class{B}, []api.Piece{piece(0, 1)}},
		{[]rune{13, 10}, []api.Class{B, B}, []api.Piece{piece(0, 2)}},
		{[]rune{13, 10}, []api.Class{B, L}, []api.Piece{piece(0, 1), piece(1, 2)}},
		{[]rune{13, 10}, []api.Class{L, B}, []api.Piece{piece(0, 2)}},
		{[]rune{13, 10}, []api.Class{L, ON}, []api.Piece{piece(0, 2)}},
		{[]rune{13, 10, 'a'}, []api.Class{L, B, L}, []api.Piece{piece(0, 2), piece(2, 3)}},
		{[]rune{13, 13, 10, 10}, []api.Class{B, B, B, B}, []api.Piece{piece(0, 1), piece(1, 3), piece(3, 4)}},
		{[]rune{13, 'a', 10}, []api.Class{B, L, B}, []api.Piece{piece(0, 1), piece(1, 3)}},
		{[]rune{13, 0x85, 10}, []api.Class{B, B, B}, []api.Piece{piece(0, 1), piece(1, 2), piece(2, 3)}},
		{[]rune{'a', 13}, []api.Class{L, B}, []api.Piece{piece(0, 2)}},
		{[]rune{'a', 'a'}, []api.Class{B, B}, []api.Piece{piece(0, 1), piece(1, 2)}},
		{[]rune{-1, api.MaxRune + 1, 0xD800}, []api.Class{L, B, L}, []api.Piece{piece(0, 2), piece(2, 3)}},
	} {
		if got, why := paras.Split(c.l, c.classes); !slices.Equal(got, c.want) || why != api.OK {
			t.Errorf("%X, %v: %v, %d, not %v", c.l, c.classes, got, why, c.want)
		}
	}
}

// P15.2: lists of unlike lengths.
func TestSplitUnlike(t *testing.T) {
	for _, c := range []struct{ runes, classes int }{{1, 0}, {1, 2}, {2, 1}, {2, 0}, {3, 5}, {1000, 999}, {1, 1000}} {
		got, why := paras.Split(make([]rune, c.runes), make([]api.Class, c.classes))
		if got != nil || why != api.ErrArg {
			t.Error(c, got, why)
		}
	}
	if _, why := paras.Split([]rune{'a'}, []api.Class{api.L, api.B}); why != api.ErrArg {
		t.Error(why)
	}
}

// P15.2: what is no B ends no paragraph, be it a class or none.
func TestSplitOfNoSeparator(t *testing.T) {
	for _, c := range every() {
		for _, l := range [][]rune{nil, {13, 10, 0x2029}, {13, 13, 10}} {
			want := []api.Piece{piece(0, 3)}
			if c == api.B {
				want = modelSplit(l, []api.Class{c, c, c})
			}
			if got, why := paras.Split(l, []api.Class{c, c, c}); !slices.Equal(got, want) || why != api.OK {
				t.Error(c, l, got, why)
			}
		}
	}
}

// character is a rune with its class.
type character struct {
	r rune
	c api.Class
}

func apart(text []character) ([]rune, []api.Class) {
	var runes []rune
	var classes []api.Class
	for _, x := range text {
		runes, classes = append(runes, x.r), append(classes, x.c)
	}
	return runes, classes
}

// P15.2, P15.7: all short texts of the characters that mean something, with runes and without.
func TestSplitOfAll(t *testing.T) {
	letters := []character{{13, api.B}, {10, api.B}, {13, api.L}, {10, api.L}, {'a', api.B}, {'a', 0}}
	for size := range 7 {
		for text := range trial.Words(letters, size) {
			runes, classes := apart(text)
			isSplit(t, runes, classes)
			isSplit(t, nil, classes)
		}
	}
}

// isSplit is whether Split answers what it should, and what follows from it holds.
func isSplit(t *testing.T, l []rune, classes []api.Class) {
	t.Helper()
	got, why := paras.Split(l, classes)
	if want := modelSplit(l, classes); !slices.Equal(got, want) || why != api.OK {
		t.Fatalf("%X, %v: %v, %d, not %v", l, classes, got, why, want)
	}
	at := 0
	for i, s := range got {
		if s.From != at || s.To <= s.From {
			t.Fatalf("%X, %v: a gap or an empty one in %v", l, classes, got)
		}
		at = s.To
		own := slices.Clone(classes[s.From:s.To])
		separator := len(own) - 1
		if own[separator] != api.B && i < len(got)-1 {
			t.Fatalf("%X, %v: no separator at the end in %v", l, classes, got)
		}
		if own[separator] == api.B && separator > 0 && len(l) > 0 && l[s.To-2] == 13 && l[s.To-1] == 10 && own[separator-1] == api.B {
			separator-- // they are one
		}
		if slices.Contains(own[:separator], api.B) {
			t.Fatalf("%X, %v: another separator in %v", l, classes, got)
		}
	}
	if at != len(classes) {
		t.Fatalf("%X, %v: not all of it in %v", l, classes, got)
	}
}

// P15.3: the chapter's example, nobody's props, no bytes, and wrong bytes about a separator.
func TestEach(t *testing.T) {
	type told = trial.Pair[api.Piece, string]
	for text, want := range map[string][]told{
		"":                     nil,
		"a\r\né\xff":           {{A: piece(0, 3), B: "a\r\n"}, {A: piece(3, 5), B: "é\xff"}},
		"\xff\r\n\xff":         {{A: piece(0, 3), B: "\xff\r\n"}, {A: piece(3, 4), B: "\xff"}},
		"\r\xff\n":             {{A: piece(0, 1), B: "\r"}, {A: piece(1, 3), B: "\xff\n"}},
		"\n\n\r":               {{A: piece(0, 1), B: "\n"}, {A: piece(1, 2), B: "\n"}, {A: piece(2, 3), B: "\r"}},
		"\u2029\xe2\x80\xa9x":  {{A: piece(0, 1), B: "\u2029"}, {A: piece(1, 2), B: "\u2029"}, {A: piece(2, 3), B: "x"}},
		"\xe2\x80\na":          {{A: piece(0, 3), B: "\xe2\x80\n"}, {A: piece(3, 4), B: "a"}},
		"\xe2\x80\r\n\xa9":     {{A: piece(0, 4), B: "\xe2\x80\r\n"}, {A: piece(4, 5), B: "\xa9"}},
		"\xc2\x85\xc2\x85\x85": {{A: piece(0, 1), B: "\u0085"}, {A: piece(1, 2), B: "\u0085"}, {A: piece(2, 3), B: "\x85"}},
		"n\xffx":               {{A: piece(0, 3), B: "n\xffx"}},
		"\n":                   {{A: piece(0, 1), B: "\n"}},
	} {
		if got := trial.Collect(paras.Each(props(), text)); !slices.Equal(got, want) {
			t.Errorf("%q: %#v, not %#v", text, got, want)
		}
		if got := trial.Collect(paras.Each(nil, text)); got != nil {
			t.Errorf("%q without props: %#v", text, got)
		}
	}
}

// P15.3: FFFD of the class B: each byte that stands for none is a separator.
func TestEachOfWrongSeparators(t *testing.T) {
	p := propsWith(0xFFFD, api.B)
	var texts []string
	for s, bytes := range paras.Each(p, "a\xff\xef\xbf\xbd\r\n\xe2\x80b") {
		texts = append(texts, bytes)
		if s.To-s.From != len([]rune(bytes)) {
			t.Errorf("%v: %q", s, bytes)
		}
	}
	if !slices.Equal(texts, []string{"a\xff", "\xef\xbf\xbd", "\r\n", "\xe2", "\x80", "b"}) {
		t.Errorf("%q", texts)
	}
}

// P15.3: all short texts of what means something; the bytes of all are the text.
func TestEachOfAll(t *testing.T) {
	for text := range trial.Joined([]string{"a", "\r", "\n", "é", "\xff", "\xe2\x80", "\u2029"}, 5) {
		isEach(t, props(), text)
		isEach(t, propsWith('\r', api.WS), text)
		isEach(t, propsWith('\n', 0), text)
	}
	for _, text := range trial.LongTexts() {
		isEach(t, props(), text)
		isEach(t, propsWith(0xFFFD, api.B), text)
		isEach(t, teller(func(r rune) api.Class { return api.Class(r%5) + api.NSM }), text)
	}
}

func isEach(t *testing.T, p api.Props, text string) {
	t.Helper()
	got := trial.Collect(paras.Each(p, text))
	if want := modelEach(p, text); !slices.Equal(got, want) {
		t.Fatalf("%q: %#v, not %#v", text, got, want)
	}
	at, whole := 0, ""
	for _, told := range got {
		if told.A.From != at {
			t.Fatalf("%q: %#v", text, got)
		}
		at, whole = told.A.To, whole+told.B
	}
	if whole != text || at != len(paras.Runes(text)) {
		t.Fatalf("%q: %#v", text, got)
	}
}

// P15.3, P0.1: left early, told again, and told within itself.
func TestEachLeftEarly(t *testing.T) {
	for _, text := range []string{"a\r\n\xff\né\rb", "\n\n\n\n", "a\nb\nc\nd\n"} {
		if wrong := trial.LeaveEarly(paras.Each(props(), text)); wrong != "" {
			t.Errorf("%q: %s", text, wrong)
		}
	}
	told := 0
	for range paras.Each(props(), strings.Repeat("a\n", 9)+"b") {
		told++
	}
	if told != 10 {
		t.Error(told)
	}
}

// P15.3: what Each tells is Split of the text's runes and classes.
func TestEachIsSplit(t *testing.T) {
	for _, text := range trial.LongTexts() {
		runes := paras.Runes(text)
		want := well[[]api.Piece](t)(paras.Split(runes, well[[]api.Class](t)(paras.Classes(props(), runes))))
		var got []api.Piece
		for s := range paras.Each(props(), text) {
			got = append(got, s)
		}
		if !slices.Equal(got, want) {
			t.Errorf("%q: %#v, not %#v", text, got, want)
		}
	}
}

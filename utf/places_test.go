package utf_test

import (
	"math"
	"slices"
	"testing"

	"furrow/api"
	"furrow/trial"
	"furrow/utf"
)

// P1.5
func TestPlacesExample(t *testing.T) {
	p := utf.New("a\xc3\xa9\xe2")
	if p.Len() != 3 || p.Text() != "a\xc3\xa9\xe2" {
		t.Errorf("Len %d, Text %x", p.Len(), p.Text())
	}
	for at, want := range []int{0, 1, 3, 4} {
		if got, code := p.Byte(at); got != want || code != api.OK {
			t.Errorf("Byte(%d) = %d, %v", at, got, code)
		}
	}
	for b, want := range []int{0, 1, 1, 2, 3} {
		if got, code := p.At(b); got != want || code != api.OK {
			t.Errorf("At(%d) = %d, %v", b, got, code)
		}
		if got := p.Begins(b); got != (b != 2) {
			t.Errorf("Begins(%d) = %v", b, got)
		}
	}
	for at, want := range []rune{'a', 0xE9, 0xFFFD} {
		if got, code := p.Rune(at); got != want || code != api.OK {
			t.Errorf("Rune(%d) = %x, %v", at, got, code)
		}
	}
	if s, code := p.Slice(1, 3); s != "\xc3\xa9\xe2" || code != api.OK {
		t.Errorf("Slice(1, 3) = %x, %v", s, code)
	}
	want := []trial.Pair[int, rune]{{A: 1, B: 0xE9}, {A: 2, B: 0xFFFD}}
	if got := trial.Collect(p.Walk(1)); !slices.Equal(got, want) {
		t.Errorf("Walk(1) = %v", got)
	}
}

// P1.5: places below 0 and above the last one.
func TestPlacesOutside(t *testing.T) {
	p := utf.New("a\xc3\xa9\xe2")
	for _, at := range []int{-1, math.MinInt, 4, 5, math.MaxInt} {
		if got, code := p.Byte(at); got != 0 || code != api.ErrArg {
			t.Errorf("Byte(%d) = %d, %v", at, got, code)
		}
		if got, code := p.Rune(at); got != 0 || code != api.ErrArg {
			t.Errorf("Rune(%d) = %x, %v", at, got, code)
		}
	}
	if got, code := p.Rune(3); got != 0 || code != api.ErrArg {
		t.Errorf("Rune(3) = %x, %v", got, code)
	}
	for _, b := range []int{-1, math.MinInt, 5, 6, math.MaxInt} {
		if got, code := p.At(b); got != 0 || code != api.ErrArg || p.Begins(b) {
			t.Errorf("At(%d) = %d, %v; Begins %v", b, got, code, p.Begins(b))
		}
	}
	for _, c := range [][2]int{{2, 1}, {-1, 1}, {-2, -1}, {0, 4}, {4, 4}, {3, 0}, {math.MinInt, math.MaxInt}, {math.MaxInt, math.MinInt}, {math.MaxInt, math.MaxInt}} {
		if got, code := p.Slice(c[0], c[1]); got != "" || code != api.ErrArg {
			t.Errorf("Slice(%d, %d) = %x, %v", c[0], c[1], got, code)
		}
	}
	for _, from := range []int{-1, math.MinInt} {
		if got := trial.Collect(p.Walk(from)); !slices.Equal(got, trial.Collect(p.Walk(0))) || len(got) != 3 {
			t.Errorf("Walk(%d) = %v", from, got)
		}
	}
	for _, from := range []int{3, 4, math.MaxInt} {
		if got := trial.Collect(p.Walk(from)); len(got) != 0 {
			t.Errorf("Walk(%d) = %v", from, got)
		}
	}
}

// P1.5: the empty text has one place, its end.
func TestPlacesOfEmpty(t *testing.T) {
	p := utf.New("")
	if p == nil || p.Len() != 0 || p.Text() != "" || !p.Begins(0) || p.Begins(1) || p.Begins(-1) {
		t.Fatal(p)
	}
	if got, code := p.Byte(0); got != 0 || code != api.OK {
		t.Error(got, code)
	}
	if got, code := p.At(0); got != 0 || code != api.OK {
		t.Error(got, code)
	}
	if got, code := p.Slice(0, 0); got != "" || code != api.OK {
		t.Error(got, code)
	}
	if got, code := p.Rune(0); got != 0 || code != api.ErrArg {
		t.Error(got, code)
	}
	if got, code := p.Byte(1); got != 0 || code != api.ErrArg {
		t.Error(got, code)
	}
	if got, code := p.At(1); got != 0 || code != api.ErrArg {
		t.Error(got, code)
	}
	if got := trial.Collect(p.Walk(0)); len(got) != 0 {
		t.Error(got)
	}
}

// P1.5, P0.1: nil Places, and Places that New did not make.
func TestPlacesOfNobody(t *testing.T) {
	for name, p := range map[string]*utf.Places{"nil": nil, "zero": {}} {
		if p.Text() != "" || p.Len() != 0 {
			t.Errorf("%s: Text %x, Len %d", name, p.Text(), p.Len())
		}
		for _, n := range []int{-1, 0, 1, math.MaxInt, math.MinInt} {
			if got, code := p.Byte(n); got != 0 || code != api.ErrNil {
				t.Errorf("%s: Byte(%d) = %d, %v", name, n, got, code)
			}
			if got, code := p.At(n); got != 0 || code != api.ErrNil {
				t.Errorf("%s: At(%d) = %d, %v", name, n, got, code)
			}
			if got, code := p.Rune(n); got != 0 || code != api.ErrNil {
				t.Errorf("%s: Rune(%d) = %x, %v", name, n, got, code)
			}
			if got, code := p.Slice(n, n); got != "" || code != api.ErrNil {
				t.Errorf("%s: Slice(%d, %d) = %x, %v", name, n, n, got, code)
			}
			if p.Begins(n) {
				t.Errorf("%s: Begins(%d)", name, n)
			}
			if got := trial.Collect(p.Walk(n)); len(got) != 0 {
				t.Errorf("%s: Walk(%d) = %v", name, n, got)
			}
		}
	}
}

// P1.5, P1.7: all places of all texts.
func TestPlacesOfAll(t *testing.T) {
	for s := range trial.Texts() {
		p, all := utf.New(s), trial.Ranged(s)
		if p.Text() != s || p.Len() != len(all) || p.Len() != utf.Count(s) {
			t.Fatalf("%x: Text %x, Len %d", s, p.Text(), p.Len())
		}
		for at, c := range all {
			b, code := p.Byte(at)
			r, other := p.Rune(at)
			if b != c.A || r != c.B || code != api.OK || other != api.OK {
				t.Fatalf("%x: %d: Byte %d, %v; Rune %x, %v", s, at, b, code, r, other)
			}
			if back, code := p.At(b); back != at || code != api.OK {
				t.Fatalf("%x: At(Byte(%d)) = %d, %v", s, at, back, code)
			}
		}
		if b, code := p.Byte(len(all)); b != len(s) || code != api.OK {
			t.Fatalf("%x: Byte(Len) = %d, %v", s, b, code)
		}
		checkBytes(t, s, p, all)
	}
}

// checkBytes holds what p tells of each byte against what a range over s told.
func checkBytes(t *testing.T, s string, p *utf.Places, all []trial.Pair[int, rune]) {
	t.Helper()
	begins := make([]bool, len(s)+1)
	begins[len(s)] = true
	for _, c := range all {
		begins[c.A] = true
	}
	count, last := 0, 0
	for b, does := range begins {
		if does {
			count++
			last = b
		}
		at, code := p.At(b)
		start, other := p.Byte(at)
		if at != count-1 || start != last || code != api.OK || other != api.OK || p.Begins(b) != does {
			t.Fatalf("%x: byte %d: At %d, %v; Byte of it %d, %v; Begins %v", s, b, at, code, start, other, p.Begins(b))
		}
	}
}

// P1.5
func TestSlicesAndWalks(t *testing.T) {
	for _, s := range append(trial.LongTexts(), "", "a", "\xff", fffd, "a\xc3\xa9\xe2\x82") {
		p, spots := utf.New(s), slices.Collect(utf.Spots(s))
		for from := range p.Len() + 1 {
			want := ""
			var walk []trial.Pair[int, rune]
			for to := from; to <= p.Len(); to++ {
				if got, code := p.Slice(from, to); got != want || code != api.OK {
					t.Fatalf("%x: Slice(%d, %d) = %x, %v", s, from, to, got, code)
				}
				if to < p.Len() {
					want += s[spots[to].Byte : spots[to].Byte+spots[to].Width]
					walk = append(walk, trial.Pair[int, rune]{A: to, B: spots[to].Rune})
				}
			}
			if got := trial.Collect(p.Walk(from)); !slices.Equal(got, walk) {
				t.Fatalf("%x: Walk(%d) = %v", s, from, got)
			}
		}
	}
}

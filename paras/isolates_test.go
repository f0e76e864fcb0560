package paras_test

import (
	"math"
	"slices"
	"testing"

	"furrow/api"
	"furrow/paras"
	"furrow/trial"
)

// P15.4: the chapter's examples, and what the issue names.
func TestMatch(t *testing.T) {
	const L, B, LRI, RLI, FSI, PDI = api.L, api.B, api.LRI, api.RLI, api.FSI, api.PDI
	for _, c := range []struct {
		classes []api.Class
		want    []int
	}{
		{nil, nil},
		{[]api.Class{}, nil},
		{[]api.Class{LRI, L, RLI, PDI, PDI, PDI}, []int{4, -1, 3, 2, 0, -1}},
		{[]api.Class{LRI, B, PDI}, []int{3, -1, -1}},
		{[]api.Class{FSI}, []int{1}},
		{[]api.Class{PDI}, []int{-1}},
		{[]api.Class{B}, []int{-1}},
		{[]api.Class{PDI, LRI}, []int{-1, 2}},
		{[]api.Class{LRI, PDI}, []int{1, 0}},
		{[]api.Class{LRI, LRI, PDI}, []int{3, 2, 1}},
		{[]api.Class{LRI, PDI, PDI}, []int{1, 0, -1}},
		{[]api.Class{LRI, RLI, FSI, PDI, PDI, PDI}, []int{5, 4, 3, 2, 1, 0}},
		{[]api.Class{LRI, PDI, RLI, PDI}, []int{1, 0, 3, 2}},
		{[]api.Class{LRI, RLI, B, PDI, FSI, PDI, PDI}, []int{7, 7, -1, -1, 5, 4, -1}},
		{[]api.Class{LRI, RLI, PDI, B, PDI}, []int{5, 2, 1, -1, -1}},
		{[]api.Class{LRI, 0, 24, 255, PDI}, []int{4, -1, -1, -1, 0}},
	} {
		if got := paras.Match(c.classes); !slices.Equal(got, c.want) {
			t.Errorf("%v: %v, not %v", c.classes, got, c.want)
		}
	}
}

// P15.4: what each number does between a beginning and an end.
func TestMatchOfEach(t *testing.T) {
	for _, c := range every() {
		want := []int{2, -1, 0, -1}
		switch {
		case isBeginning(c):
			want = []int{3, 2, 1, 0}
		case c == api.PDI:
			want = []int{1, 0, -1, -1}
		case c == api.B:
			want = []int{4, -1, -1, -1}
		}
		if got := paras.Match([]api.Class{api.RLI, c, api.PDI, api.PDI}); !slices.Equal(got, want) {
			t.Errorf("%d: %v, not %v", c, got, want)
		}
	}
}

// P15.4, P15.8: all short lists of what means something.
func TestMatchOfAll(t *testing.T) {
	letters := []api.Class{api.LRI, api.RLI, api.FSI, api.PDI, api.B, api.R}
	for size := range 8 {
		for classes := range trial.Words(letters, size) {
			got := paras.Match(classes)
			if want := modelMatch(classes); !slices.Equal(got, want) {
				t.Fatalf("%v: %v, not %v", classes, got, want)
			}
			arePairs(t, classes, got)
		}
	}
}

// arePairs is whether what Match tells goes together: both ways, enclosed or apart, no B between.
func arePairs(t *testing.T, classes []api.Class, match []int) {
	t.Helper()
	for i, j := range match {
		if j < 0 || j >= len(classes) {
			continue
		}
		if match[j] != i {
			t.Fatalf("%v: %d is of %d, but not the other way", classes, i, j)
		}
		if j < i {
			continue
		}
		for k := i + 1; k < j; k++ {
			if classes[k] == api.B || match[k] >= 0 && (match[k] < i || match[k] > j) {
				t.Fatalf("%v: %v crosses at %d", classes, match, k)
			}
		}
	}
}

// P15.5: the chapter's examples, and what the issue names.
func TestFirst(t *testing.T) {
	const L, R, AL, ON, B, LRI, FSI, PDI = api.L, api.R, api.AL, api.ON, api.B, api.LRI, api.FSI, api.PDI
	for _, c := range []struct {
		classes []api.Class
		s       api.Piece
		at      int
		is      bool
	}{
		{[]api.Class{ON, LRI, R, PDI, AL}, piece(0, 5), 4, true},
		{[]api.Class{ON, LRI, R, PDI, AL}, piece(1, 4), 0, false},
		{[]api.Class{ON, LRI, R, PDI, AL}, piece(1, 3), 0, false},
		{[]api.Class{LRI, R}, piece(0, 2), 0, false},
		{[]api.Class{LRI, R, PDI, L}, piece(1, 4), 1, true},
		{nil, piece(0, 0), 0, false},
		{[]api.Class{L}, piece(0, 0), 0, false},
		{[]api.Class{L}, piece(1, 1), 0, false},
		{[]api.Class{L}, piece(0, 1), 0, true},
		{[]api.Class{L, R}, piece(1, 2), 1, true},
		{[]api.Class{L, R}, piece(1, 1), 0, false},
		{[]api.Class{L, ON, R}, piece(1, 2), 0, false},
		{[]api.Class{ON, ON, R, L}, piece(0, 3), 2, true},
		{[]api.Class{LRI, R, PDI, L}, piece(2, 4), 3, true},               // it begins with the end
		{[]api.Class{LRI, LRI, R, PDI, AL, PDI, L}, piece(1, 7), 4, true}, // it begins within one and with another
		{[]api.Class{LRI, LRI, R, PDI, AL, PDI, L}, piece(0, 7), 6, true},
		{[]api.Class{LRI, LRI, R, PDI, AL, PDI, L}, piece(0, 6), 0, false},
		{[]api.Class{LRI, R, LRI, PDI, AL}, piece(0, 5), 0, false}, // the first one has no end
		{[]api.Class{LRI, R, B, L}, piece(0, 4), 0, false},
		{[]api.Class{LRI, R, B, PDI, L}, piece(0, 5), 0, false}, // the PDI does not belong to it
		{[]api.Class{ON, B, L}, piece(0, 3), 2, true},
		{[]api.Class{LRI, PDI, B, L}, piece(0, 4), 3, true},
		{[]api.Class{PDI, PDI, AL}, piece(0, 3), 2, true},
		{[]api.Class{FSI, L, PDI, FSI, R, PDI, AL}, piece(0, 7), 6, true},
		{[]api.Class{0, 24, 255, R}, piece(0, 4), 3, true},
		{[]api.Class{0, 24, 255}, piece(0, 3), 0, false},
	} {
		if at, is, why := paras.First(c.classes, c.s); at != c.at || is != c.is || why != api.OK {
			t.Errorf("%v, %v: %d, %v, %d", c.classes, c.s, at, is, why)
		}
	}
}

// P15.5: pieces that are none of the list.
func TestFirstOfNoPiece(t *testing.T) {
	classes := []api.Class{api.L, api.R, api.AL}
	for _, s := range []api.Piece{
		piece(-1, 1), piece(-1, -1), piece(-2, -1), piece(1, 0), piece(3, 2), piece(0, 4), piece(4, 4), piece(3, 4), piece(0, -1), piece(-1, 4),
		piece(math.MinInt, math.MaxInt), piece(math.MaxInt, math.MinInt), piece(math.MinInt, 0), piece(0, math.MaxInt), piece(math.MaxInt, math.MaxInt), piece(math.MinInt, math.MinInt),
	} {
		if at, is, why := paras.First(classes, s); at != 0 || is || why != api.ErrArg {
			t.Error(s, at, is, why)
		}
	}
	if at, is, why := paras.First(classes[:2], piece(0, 3)); at != 0 || is || why != api.ErrArg {
		t.Error(at, is, why) // the room behind it is no part of it
	}
	if at, is, why := paras.First(nil, piece(0, 1)); at != 0 || is || why != api.ErrArg {
		t.Error(at, is, why)
	}
}

// P15.5, P15.6: which numbers are strong, which begin an isolate.
func TestFirstOfEach(t *testing.T) {
	for _, c := range every() {
		classes := []api.Class{api.ON, c, api.AL}
		at, is, why := paras.First(classes, piece(0, 3))
		wantAt, want := modelFirst(classes, piece(0, 3))
		if at != wantAt || is != want || why != api.OK {
			t.Error(c, at, is, why)
		}
		for b, want := range map[api.Base]api.Level{api.Left: 0, api.Right: 1, api.Auto: modelLevel(classes[:2])} {
			if l, why := paras.Level(classes[:2], b); l != want || why != api.OK {
				t.Error(c, b, l, why)
			}
		}
	}
	for c, want := range map[api.Class]api.Level{api.L: 0, api.R: 1, api.AL: 1, api.ON: 0, api.EN: 0, api.AN: 0, 0: 0, 24: 0} {
		if l, why := paras.Level([]api.Class{c}, api.Auto); l != want || why != api.OK {
			t.Error(c, l, why)
		}
	}
}

// P15.5, P15.6: all pieces of all short lists of what means something.
func TestFirstOfAll(t *testing.T) {
	letters := []api.Class{api.LRI, api.FSI, api.PDI, api.B, api.R, api.L, 0}
	for size := range 6 {
		for classes := range trial.Words(letters, size) {
			areFirst(t, classes)
		}
	}
}

// P15.5, P15.6: longer lists, nested deeper.
func TestFirstOfLonger(t *testing.T) {
	letters := []api.Class{api.LRI, api.PDI, api.RLI, api.PDI, api.FSI, api.PDI, api.AL, api.ON, api.B}
	next := trial.Numbers()
	for round := range 300 {
		classes := make([]api.Class, 10+round%20)
		for i := range classes {
			classes[i] = letters[int(next()>>8)%(len(letters)-round%2)] // without a B in every other one
		}
		areFirst(t, classes)
		if got, want := paras.Match(classes), modelMatch(classes); !slices.Equal(got, want) {
			t.Fatalf("%v: %v, not %v", classes, got, want)
		}
	}
}

// areFirst is whether First and Level answer what they should of a list and its pieces.
func areFirst(t *testing.T, classes []api.Class) {
	t.Helper()
	for from := range len(classes) + 1 {
		for to := from; to <= len(classes); to++ {
			wantAt, want := modelFirst(classes, piece(from, to))
			at, is, why := paras.First(classes, piece(from, to))
			if at != wantAt || is != want || why != api.OK {
				t.Fatalf("%v from %d to %d: %d, %v, %d, not %d, %v", classes, from, to, at, is, why, wantAt, want)
			}
		}
	}
	if l, why := paras.Level(classes, api.Auto); l != modelLevel(classes) || why != api.OK {
		t.Fatalf("%v: %d, %d", classes, l, why)
	}
}

// P15.6: the chapter's examples, and what the issue names.
func TestLevel(t *testing.T) {
	const L, R, AL, ON, B, LRI, PDI = api.L, api.R, api.AL, api.ON, api.B, api.LRI, api.PDI
	for _, c := range []struct {
		classes []api.Class
		auto    api.Level
	}{
		{[]api.Class{ON, R}, 1},
		{nil, 0},
		{[]api.Class{}, 0},
		{[]api.Class{LRI, L, PDI, R}, 1},
		{[]api.Class{LRI, R, PDI, L}, 0},
		{[]api.Class{LRI, R, PDI}, 0},
		{[]api.Class{ON, AL, L}, 1},
		{[]api.Class{L, R}, 0},
		{[]api.Class{B, R}, 1}, // one paragraph, whatever stands in it
		{[]api.Class{B, AL, B, L}, 1},
		{[]api.Class{LRI, B, R}, 0},
		{[]api.Class{LRI, B, PDI, R}, 0},
		{[]api.Class{ON, B}, 0},
	} {
		for b, want := range map[api.Base]api.Level{api.Auto: c.auto, api.Left: 0, api.Right: 1} {
			if l, why := paras.Level(c.classes, b); l != want || why != api.OK {
				t.Errorf("%v at %d: %d, %d", c.classes, b, l, why)
			}
		}
	}
}

// P15.6: numbers that are no base, whatever the list.
func TestLevelOfNoBase(t *testing.T) {
	for b := math.MinInt8; b <= math.MaxInt8; b++ {
		if b >= -1 && b <= 1 {
			continue
		}
		for _, classes := range [][]api.Class{nil, {api.R}, {api.L}, {api.B, 0}} {
			if l, why := paras.Level(classes, api.Base(b)); l != 0 || why != api.ErrArg {
				t.Error(b, l, why)
			}
		}
	}
}

package paras_test

import (
	"slices"
	"strings"
	"testing"

	"furrow/api"
	"furrow/paras"
	"furrow/trial"
	"furrow/utf"
)

// closed are lists without a B whose isolates belong together within them, a strong one or more in some.
func closed() [][]api.Class {
	const L, R, AL, ON, LRI, RLI, FSI, PDI = api.L, api.R, api.AL, api.ON, api.LRI, api.RLI, api.FSI, api.PDI
	return [][]api.Class{
		{}, {L}, {R}, {AL, L}, {ON, R, ON}, {0}, {LRI, PDI}, {RLI, L, PDI, AL}, {FSI, FSI, R, PDI, PDI}, {L, LRI, PDI, FSI, R, PDI, R}, {api.RLE, R, api.PDF},
	}
}

// P15.9: whatever stands in an isolate, the level is the same: in all short lists of what means something, with isolates in them.
func TestWithin(t *testing.T) {
	letters := []api.Class{api.LRI, api.FSI, api.PDI, api.R, api.L, api.B, api.ON}
	for size := range 6 {
		for classes := range trial.Words(letters, size) {
			want := well[api.Level](t)(paras.Level(classes, api.Auto))
			for from, to := range modelMatch(classes) {
				if to <= from || to == len(classes) {
					continue
				}
				for _, within := range closed() {
					other := slices.Concat(classes[:from+1], within, classes[to:])
					if l, why := paras.Level(other, api.Auto); l != want || why != api.OK {
						t.Fatalf("%v: %d, but %v: %d", classes, want, other, l)
					}
				}
			}
		}
	}
}

// P15.9: a B, or an isolate that goes beyond it, is not within.
func TestNotWithin(t *testing.T) {
	const L, R, LRI, PDI, B = api.L, api.R, api.LRI, api.PDI, api.B
	for _, c := range []struct {
		within []api.Class
		want   api.Level
	}{{nil, 1}, {[]api.Class{L}, 1}, {[]api.Class{B}, 0}, {[]api.Class{LRI}, 0}, {[]api.Class{PDI, L}, 0}, {[]api.Class{PDI, L, LRI}, 0}} {
		if l, why := paras.Level(slices.Concat([]api.Class{LRI}, c.within, []api.Class{PDI, R}), api.Auto); l != c.want || why != api.OK {
			t.Error(c, l, why)
		}
	}
}

// P15.10, P0.2: a byte that stands for none has FFFD's class, whichever it is, and changes no other one's.
func TestBytes(t *testing.T) {
	for _, c := range []api.Class{api.ON, api.L, api.B, api.PDI, 0} {
		p := propsWith(0xFFFD, c)
		for text := range trial.Joined([]string{"a", "\n", "\xff", "\xe2\x80", "\xc3", "\xa9", "\ufffd", "\u05d0"}, 4) {
			got := well[[]api.Class](t)(paras.Classes(p, paras.Runes(text)))
			if mended := well[[]api.Class](t)(paras.Classes(p, paras.Runes(utf.Mend(text)))); !slices.Equal(got, mended) {
				t.Fatalf("%q: %v, mended %v", text, got, mended)
			}
			at := 0
			for spot := range utf.Spots(text) {
				want := p.Class(spot.Rune)
				if spot.Code != api.OK {
					want = c
				}
				if want == 0 {
					want = api.ON
				}
				if got[at] != want {
					t.Fatalf("%q at %d: %d, not %d", text, at, got[at], want)
				}
				at++
			}
		}
	}
}

// P0.2: pieces and bytes go together: the widths of a piece's characters add up to its bytes, and its ends are the places of these bytes' ends.
func TestPlaces(t *testing.T) {
	for _, text := range trial.LongTexts() {
		places := utf.New(text)
		from := 0
		for s, bytes := range paras.Each(propsWith(0xFFFD, api.B), text) {
			width := 0
			for spot := range utf.Spots(bytes) {
				width += spot.Width
			}
			if width != len(bytes) || s.To-s.From != utf.Count(bytes) {
				t.Errorf("%q: %v, %q", text, s, bytes)
			}
			begin := well[int](t)(places.At(from))
			from += len(bytes)
			end := well[int](t)(places.At(from))
			if begin != s.From || end != s.To {
				t.Errorf("%q: %v, but by bytes from %d to %d", text, s, begin, end)
			}
		}
	}
}

// P0.2, P0.7: what is told of a paragraph does not hang on what stands in others, right or wrong.
func TestParagraphsApart(t *testing.T) {
	whole := []string{"a\r\n", "\xff\n", "\r", "\xe2\x80\n", "é\u2029", "\n", "\xc3"}
	for text := range trial.Joined(whole, 4) {
		for s, bytes := range paras.Each(props(), text) {
			alone := trial.Collect(paras.Each(props(), bytes))
			if len(alone) != 1 || alone[0].B != bytes || alone[0].A != piece(0, s.To-s.From) {
				t.Fatalf("%q: %q alone is %#v", text, bytes, alone)
			}
		}
	}
}

// P15.7: the lines of a text by Go's own means.
func TestAsLines(t *testing.T) {
	text := "a\nbé\n\n\xff\nc"
	var got []string
	for _, bytes := range paras.Each(props(), text) {
		got = append(got, bytes)
	}
	if want := strings.SplitAfter(text, "\n"); !slices.Equal(got, want) {
		t.Errorf("%q, not %q", got, want)
	}
}

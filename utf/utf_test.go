package utf_test

import (
	"cmp"
	"math"
	"slices"
	"strings"
	"testing"
	"unicode/utf8"

	"furrow/api"
	"furrow/trial"
	"furrow/utf"
)

const fffd = "\xef\xbf\xbd"

// P1.1
func TestScalarAndWidth(t *testing.T) {
	for r, width := range map[rune]int{
		0: 1, 0x41: 1, 0x7F: 1, 0x80: 2, 0xE9: 2, 0x7FF: 2, 0x800: 3, 0x20AC: 3, 0xD7FF: 3, 0xE000: 3,
		0xFFFD: 3, 0xFFFE: 3, 0xFFFF: 3, 0x10000: 4, 0x1F600: 4, 0x10FFFF: 4,
		0xD800: 0, 0xDBFF: 0, 0xDC00: 0, 0xDFFF: 0, -1: 0, math.MinInt32: 0, 0x110000: 0, math.MaxInt32: 0,
	} {
		if got := utf.Width(r); got != width {
			t.Errorf("Width(%x) = %d, not %d", r, got, width)
		}
		if got := utf.Scalar(r); got != (width > 0) {
			t.Errorf("Scalar(%x) = %v", r, got)
		}
	}
}

// P1.1, P1.6
func TestEncode(t *testing.T) {
	if s := utf.Encode(); s != "" {
		t.Errorf("Encode() = %x", s)
	}
	if s := utf.Encode(nil...); s != "" {
		t.Errorf("Encode(nil ..) = %x", s)
	}
	if s := utf.Encode([]rune{}...); s != "" {
		t.Errorf("Encode of an empty list = %x", s)
	}
	for want, l := range map[string][]rune{
		"\x00\x7f\xc2\x80\xdf\xbf\xe0\xa0\x80":         {0, 0x7F, 0x80, 0x7FF, 0x800},
		"\xef\xbf\xbf\xf0\x90\x80\x80\xf4\x8f\xbf\xbf": {0xFFFF, 0x10000, 0x10FFFF},
		"\xed\x9f\xbf" + fffd + fffd + "\xee\x80\x80":  {0xD7FF, 0xD800, 0xDFFF, 0xE000},
		fffd + "a" + fffd + fffd + fffd + fffd:         {-1, 'a', 0x110000, math.MinInt32, math.MaxInt32, 0xFFFD},
		"a" + fffd + fffd + fffd + "\xf0\x9f\x98\x80":  {0x61, 0xD800, -1, 0x110000, 0x1F600},
	} {
		if got := utf.Encode(l...); got != want || got != string(l) {
			t.Errorf("Encode(%x) = %x, not %x", l, got, want)
		}
	}
}

// P1.1, P1.6, P1.9
func TestEachNumber(t *testing.T) {
	for r := rune(-2); r <= api.MaxRune+2; r++ {
		s := utf.Encode(r)
		if s != string(r) || utf.Scalar(r) != utf8.ValidRune(r) {
			t.Fatalf("%x: %x, %v", r, s, utf.Scalar(r))
		}
		if !utf.Scalar(r) {
			if s != fffd || utf.Width(r) != 0 {
				t.Fatalf("%x: %x, wide %d", r, s, utf.Width(r))
			}
			continue
		}
		want := api.Spot{Width: len(s), Rune: r}
		if utf.Width(r) != len(s) || utf.First(s) != want || utf.Last(s) != want {
			t.Fatalf("%x: %x, wide %d, %v, %v", r, s, utf.Width(r), utf.First(s), utf.Last(s))
		}
	}
}

// P1.2
func TestExample(t *testing.T) {
	const s = "a\xc3\xa9\xe2\x82"
	spots := []api.Spot{
		{Byte: 0, Width: 1, Rune: 'a'},
		{Byte: 1, Width: 2, Rune: 0xE9},
		{Byte: 3, Width: 1, Rune: 0xFFFD, Code: api.ErrCut},
		{Byte: 4, Width: 1, Rune: 0xFFFD, Code: api.ErrLead},
	}
	runes := []rune{'a', 0xE9, 0xFFFD, 0xFFFD}
	if got := utf.Runes(s); !slices.Equal(got, runes) || utf.Count(s) != 4 {
		t.Errorf("Runes %x, Count %d", got, utf.Count(s))
	}
	if got := slices.Collect(utf.Spots(s)); !slices.Equal(got, spots) {
		t.Errorf("Spots %v", got)
	}
	if utf.First(s) != spots[0] || utf.Last(s) != spots[3] {
		t.Errorf("First %v, Last %v", utf.First(s), utf.Last(s))
	}
	all := []trial.Pair[int, rune]{{A: 0, B: 'a'}, {A: 1, B: 0xE9}, {A: 3, B: 0xFFFD}, {A: 4, B: 0xFFFD}}
	if got := trial.Collect(utf.All(s)); !slices.Equal(got, all) {
		t.Errorf("All %v", got)
	}
	if got := trial.Collect(utf.Back(s)); !slices.Equal(got, trial.Reversed(all)) {
		t.Errorf("Back %v", got)
	}
}

// P1.2, P1.3, P1.4: the empty text.
func TestEmpty(t *testing.T) {
	if len(utf.Runes("")) != 0 || len(utf.Parts("")) != 0 || utf.Count("") != 0 || utf.Mend("") != "" {
		t.Error("the empty text stands for something")
	}
	if utf.First("") != (api.Spot{}) || utf.Last("") != (api.Spot{}) {
		t.Error("the empty text has a Spot")
	}
	if at, code := utf.Check(""); at != 0 || code != api.OK {
		t.Error(at, code)
	}
	if l, wrong := utf.Strict(""); len(l) != 0 || wrong != nil {
		t.Error(l, wrong)
	}
	if len(trial.Collect(utf.All("")))+len(trial.Collect(utf.Back("")))+len(trial.Collect(utf.Pieces("")))+len(slices.Collect(utf.Spots(""))) != 0 {
		t.Error("an iterator of the empty text tells something")
	}
}

// P1.2, P1.4: a right FFFD beside a wrong byte.
func TestRightAndWrongReplaced(t *testing.T) {
	const s = "\xff" + fffd + "\xbd" + fffd + "\xef\xbf"
	want := []api.Spot{
		{Byte: 0, Width: 1, Rune: 0xFFFD, Code: api.ErrLead},
		{Byte: 1, Width: 3, Rune: 0xFFFD},
		{Byte: 4, Width: 1, Rune: 0xFFFD, Code: api.ErrLead},
		{Byte: 5, Width: 3, Rune: 0xFFFD},
		{Byte: 8, Width: 1, Rune: 0xFFFD, Code: api.ErrCut},
		{Byte: 9, Width: 1, Rune: 0xFFFD, Code: api.ErrLead},
	}
	if got := slices.Collect(utf.Spots(s)); !slices.Equal(got, want) {
		t.Errorf("Spots %v", got)
	}
	pieces := []trial.Pair[string, rune]{{A: "\xff", B: 0xFFFD}, {A: fffd, B: 0xFFFD}, {A: "\xbd", B: 0xFFFD}, {A: fffd, B: 0xFFFD}, {A: "\xef\xbf", B: 0xFFFD}}
	if got := trial.Collect(utf.Pieces(s)); !slices.Equal(got, pieces) {
		t.Errorf("Pieces %v", got)
	}
	if at, code := utf.Check(fffd + fffd); at != 6 || code != api.OK {
		t.Error(at, code)
	}
	if utf.Last(fffd) != (api.Spot{Width: 3, Rune: 0xFFFD}) {
		t.Error(utf.Last(fffd))
	}
}

// P1.3: what the bits of whole sequences make.
func TestWhyByNumber(t *testing.T) {
	least := []int{0, 0, 0x80, 0x800, 0x10000}
	for width, numbers := range map[int]int{1: 0x80, 2: 0x800, 3: 0x10000, 4: 0x200000} {
		for number := range numbers {
			code := api.OK
			switch {
			case number < least[width]:
				code = api.ErrOver
			case number >= 0xD800 && number <= 0xDFFF:
				code = api.ErrHalf
			case number > 0x10FFFF:
				code = api.ErrPast
			}
			want := api.Spot{Width: 1, Rune: 0xFFFD, Code: code}
			if code == api.OK {
				want = api.Spot{Width: width, Rune: rune(number)}
			}
			if got := utf.First(sequence(number, width)); got != want {
				t.Fatalf("%x in %d bytes: %v, not %v", number, width, got, want)
			}
		}
	}
}

// P1.3: what is missing or wrong behind a first byte, whatever the bits would make.
func TestWhyByBytes(t *testing.T) {
	for b := range 256 {
		first := string([]byte{byte(b)})
		want, more := api.ErrCut, 0
		switch {
		case b < 0x80:
			want = api.OK
		case b < 0xC0 || b > 0xF7:
			want = api.ErrLead
		case b < 0xE0:
			more = 1
		case b < 0xF0:
			more = 2
		default:
			more = 3
		}
		if got := utf.First(first); got.Code != want {
			t.Errorf("%x: %v", first, got)
		}
		for have := range more {
			for _, tail := range []string{"\x80", "\x9f", "\xbf"} {
				s := first + strings.Repeat(tail, have)
				if got := utf.First(s).Code; got != api.ErrCut {
					t.Errorf("%x: %v, not ErrCut", s, got)
				}
				for _, other := range []string{"\x00", "A", "\x7f", "\xc0", "\xe2", "\xff"} {
					if got := utf.First(s + other).Code; got != api.ErrTail {
						t.Errorf("%x: %v, not ErrTail", s+other, got)
					}
					if got := utf.First(s + other + "\x80\x80").Code; got != api.ErrTail {
						t.Errorf("%x: %v, not ErrTail", s+other+"\x80\x80", got)
					}
				}
			}
		}
	}
}

// P1.3
func TestCheckAndStrict(t *testing.T) {
	for s, want := range map[string]api.Spot{
		"\xc0\x80":                 {Code: api.ErrOver},
		"\xc1\xbf":                 {Code: api.ErrOver},
		"\xe0\x9f\xbf":             {Code: api.ErrOver},
		"\xf0\x8f\xbf\xbf":         {Code: api.ErrOver},
		"\xf0\x8d\xa0\x80":         {Code: api.ErrOver},
		"\xed\xa0\x80":             {Code: api.ErrHalf},
		"\xed\xbf\xbf":             {Code: api.ErrHalf},
		"\xf4\x90\x80\x80":         {Code: api.ErrPast},
		"\xf7\xbf\xbf\xbf":         {Code: api.ErrPast},
		"\xe2(\xa1":                {Code: api.ErrTail},
		"\xe2(":                    {Code: api.ErrTail},
		"a\xc3\xa9\xe2\x82":        {Byte: 3, Code: api.ErrCut},
		"ab\xff\xe2":               {Byte: 2, Code: api.ErrLead},
		fffd + "\x80":              {Byte: 3, Code: api.ErrLead},
		"\xf0\x9f\x98\x80\xf8":     {Byte: 4, Code: api.ErrLead},
		"a\xed\xa0\x80\xff\xc0":    {Byte: 1, Code: api.ErrHalf},
		"\xf4\x8f\xbf\xbf\xf5\x80": {Byte: 4, Code: api.ErrCut},
	} {
		if at, code := utf.Check(s); at != want.Byte || code != want.Code {
			t.Errorf("Check(%x) = %d, %v", s, at, code)
		}
		want.Width, want.Rune = 1, 0xFFFD
		if l, wrong := utf.Strict(s); l != nil || wrong == nil || *wrong != want {
			t.Errorf("Strict(%x) = %x, %v", s, l, wrong)
		}
	}
	for _, s := range []string{"a", fffd, "\x00", "a\xc3\xa9\xe2\x82\xac\xf0\x9f\x98\x80", "\xf4\x8f\xbf\xbf"} {
		if at, code := utf.Check(s); at != len(s) || code != api.OK {
			t.Errorf("Check(%x) = %d, %v", s, at, code)
		}
		if l, wrong := utf.Strict(s); !slices.Equal(l, []rune(s)) || wrong != nil {
			t.Errorf("Strict(%x) = %x, %v", s, l, wrong)
		}
	}
}

// P1.3
func TestStrictAndCheckAgree(t *testing.T) {
	for s := range trial.Texts() {
		at, code := utf.Check(s)
		l, wrong := utf.Strict(s)
		if utf8.ValidString(s) {
			if at != len(s) || code != api.OK || wrong != nil || !slices.Equal(l, []rune(s)) {
				t.Fatalf("%x: %d, %v; %x, %v", s, at, code, l, wrong)
			}
			continue
		}
		if code == api.OK || l != nil || wrong == nil || *wrong != (api.Spot{Byte: at, Width: 1, Rune: 0xFFFD, Code: code}) || !utf8.ValidString(s[:at]) {
			t.Fatalf("%x: %d, %v; %x, %v", s, at, code, l, wrong)
		}
	}
}

// P1.4
func TestParts(t *testing.T) {
	for s, want := range map[string][]string{
		"a\xc3\xa9\xe2\x82":         {"a", "\xc3\xa9", "\xe2\x82"},
		"\xf0\x9f\x98A":             {"\xf0\x9f\x98", "A"},
		"\xed\xa0\x80":              {"\xed", "\xa0", "\x80"},
		"\xed\x9f":                  {"\xed\x9f"},
		"\xc0\x80":                  {"\xc0", "\x80"},
		"\xe0\x9f\xbf":              {"\xe0", "\x9f", "\xbf"},
		"\xe0\xa0":                  {"\xe0\xa0"},
		"\xf0\x8f\xbf\xbf":          {"\xf0", "\x8f", "\xbf", "\xbf"},
		"\xf0\x90\x80":              {"\xf0\x90\x80"},
		"\xf4\x8f\xbf":              {"\xf4\x8f\xbf"},
		"\xf4\x90\x80\x80":          {"\xf4", "\x90", "\x80", "\x80"},
		"\xf5\x80":                  {"\xf5", "\x80"},
		"\xf1\x80\x80\xe2\x82":      {"\xf1\x80\x80", "\xe2\x82"},
		"\xe2\xe2\x82\xe2\x82\xac":  {"\xe2", "\xe2\x82", "\xe2\x82\xac"},
		"\xff\x80\xc3":              {"\xff", "\x80", "\xc3"},
		"\xef\xbf\xef\xbf\xbd\xbf":  {"\xef\xbf", fffd, "\xbf"},
		"\xf0\x9f\x98\x80\xf0\x9fz": {"\xf0\x9f\x98\x80", "\xf0\x9f", "z"},
	} {
		var pieces []string
		var runes []rune
		for piece, r := range utf.Pieces(s) {
			pieces = append(pieces, piece)
			runes = append(runes, r)
			if first, size := utf8.DecodeRuneInString(piece); r != first || r != 0xFFFD && size != len(piece) {
				t.Errorf("Pieces(%x) tells %x with %x", s, piece, r)
			}
		}
		if !slices.Equal(pieces, want) || !slices.Equal(utf.Parts(s), runes) {
			t.Errorf("Pieces(%x) = %x, not %x; Parts %x", s, pieces, want, utf.Parts(s))
		}
	}
}

// P1.4, P1.12: held against all beginnings of all right sequences.
func TestLongestParts(t *testing.T) {
	isBeginning := beginnings()
	for s := range trial.Texts() {
		rest := s
		for piece, r := range utf.Pieces(s) {
			first, size := utf8.DecodeRuneInString(rest)
			if first == utf8.RuneError && size == 1 {
				for n := 2; n <= len(rest) && isBeginning[rest[:n]]; n++ {
					size = n
				}
			}
			if piece != rest[:size] || r != first {
				t.Fatalf("%x: piece %x of %x, with %x", s, piece, rest, r)
			}
			if r == 0xFFFD && piece != fffd && (len(piece) < 1 || len(piece) > 3) {
				t.Fatalf("%x: piece %x", s, piece)
			}
			rest = rest[size:]
		}
		if rest != "" {
			t.Fatalf("%x: %x is left", s, rest)
		}
	}
}

// P1.12
func TestPartsAndRunes(t *testing.T) {
	isReplaced := func(r rune) bool { return r == 0xFFFD }
	for s := range trial.Texts() {
		parts, runes := utf.Parts(s), utf.Runes(s)
		if len(parts) > len(runes) || utf8.ValidString(s) && !slices.Equal(parts, runes) {
			t.Fatalf("%x: %x and %x", s, parts, runes)
		}
		if !slices.Equal(slices.DeleteFunc(parts, isReplaced), slices.DeleteFunc(runes, isReplaced)) {
			t.Fatalf("%x: unlike characters", s)
		}
	}
}

// P1.2, P1.6
func TestAsGoHasIt(t *testing.T) {
	for s := range trial.Texts() {
		runes := utf.Runes(s)
		if !slices.Equal(runes, []rune(s)) || utf.Count(s) != utf8.RuneCountInString(s) {
			t.Fatalf("%x: %x, %d", s, runes, utf.Count(s))
		}
		if got := trial.Collect(utf.All(s)); !slices.Equal(got, trial.Ranged(s)) {
			t.Fatalf("All(%x) = %v", s, got)
		}
		if utf.Encode(runes...) != string(runes) {
			t.Fatalf("%x: %x", s, utf.Encode(runes...))
		}
	}
}

// P1.2, P1.7: Spots have no gaps, and are told as All tells them.
func TestNothingIsLost(t *testing.T) {
	for s := range trial.Texts() {
		end, all := 0, trial.Ranged(s)
		for i, spot := range slices.Collect(utf.Spots(s)) {
			r, size := utf8.DecodeRuneInString(s[end:])
			if spot.Byte != end || spot.Width != size || spot.Rune != r || (spot.Code != api.OK) != (r == 0xFFFD && size == 1) || all[i].A != end {
				t.Fatalf("%x: %v, not %d wide %d %x", s, spot, end, size, r)
			}
			end += spot.Width
		}
		if end != len(s) {
			t.Fatalf("%x: %d of %d bytes", s, end, len(s))
		}
		joined := ""
		for piece := range utf.Pieces(s) {
			joined += piece
		}
		if joined != s {
			t.Fatalf("%x: joined %x", s, joined)
		}
	}
}

// P1.2: First and Last are the ends of Spots.
func TestEndsOfSpots(t *testing.T) {
	for s := range trial.Texts() {
		spots := slices.Collect(utf.Spots(s))
		if len(spots) == 0 {
			continue
		}
		if utf.First(s) != spots[0] || utf.Last(s) != spots[len(spots)-1] {
			t.Fatalf("%x: %v, %v of %v", s, utf.First(s), utf.Last(s), spots)
		}
	}
}

// P1.8
func TestFromBehind(t *testing.T) {
	for s := range trial.Texts() {
		if got := trial.Collect(utf.Back(s)); !slices.Equal(got, trial.Reversed(trial.Ranged(s))) {
			t.Fatalf("Back(%x) = %v", s, got)
		}
	}
}

// P1.9
func TestThereAndBack(t *testing.T) {
	var all []rune
	for r := rune(0); r <= api.MaxRune; r++ {
		if utf.Scalar(r) {
			all = append(all, r)
		}
	}
	if !slices.Equal(utf.Runes(utf.Encode(all...)), all) {
		t.Error("all characters do not come back")
	}
	for s := range trial.Texts() {
		if utf8.ValidString(s) && utf.Encode(utf.Runes(s)...) != s {
			t.Fatalf("%x does not come back", s)
		}
	}
}

// P1.4, P1.9
func TestMend(t *testing.T) {
	if s := utf.Mend("a\xff\xe2\x82" + fffd + "\xc3\xa9"); s != "a"+fffd+fffd+fffd+fffd+"\xc3\xa9" {
		t.Errorf("%x", s)
	}
	for s := range trial.Texts() {
		mended := utf.Mend(s)
		if at, code := utf.Check(mended); code != api.OK || at != len(mended) {
			t.Fatalf("Mend(%x) = %x has a wrong byte", s, mended)
		}
		if utf.Count(mended) != utf.Count(s) || utf.Mend(mended) != mended || mended != utf.Encode(utf.Runes(s)...) {
			t.Fatalf("Mend(%x) = %x", s, mended)
		}
	}
}

// P1.10
func TestInPieces(t *testing.T) {
	var halves []string
	for size := range 4 {
		for half := range trial.Words([]byte("A\xac\x82\xc3\xe2\xf0\xff"), size) {
			halves = append(halves, string(half))
		}
	}
	halves = append(halves, fffd, "\xe2\x82\xac", "\xf0\x9f\x98\x80", "a\xf0\x9f\x98", "\x98\x80z")
	for _, s := range halves {
		for _, v := range halves {
			apart := v == "" || v[0] < 0x80 || v[0] > 0xBF
			if _, code := utf.Check(s); code != api.OK && !apart {
				continue
			}
			if !slices.Equal(utf.Runes(s+v), slices.Concat(utf.Runes(s), utf.Runes(v))) {
				t.Fatalf("%x and %x: %x", s, v, utf.Runes(s+v))
			}
		}
	}
}

// P1.11
func TestOrder(t *testing.T) {
	marks := []rune{0, 'A', 0x7F, 0x80, 0x7FF, 0x800, 0xD7FF, 0xE000, 0xFFFD, 0xFFFF, 0x10000, 0x1F600, 0x10FFFF}
	lists := [][]rune{nil}
	for _, a := range marks {
		lists = append(lists, []rune{a})
		for _, b := range marks {
			lists = append(lists, []rune{a, b}, []rune{'A', a, b})
		}
	}
	for _, a := range lists {
		for _, b := range lists {
			if cmp.Compare(utf.Encode(a...), utf.Encode(b...)) != slices.Compare(a, b) {
				t.Fatalf("%x and %x stand otherwise", a, b)
			}
		}
	}
}

package words_test

import (
	"fmt"
	"math"
	"slices"
	"strings"
	"testing"
	"unicode/utf8"

	"furrow/trial"
	"furrow/utf"
	"furrow/words"
)

const fffd = "\xef\xbf\xbd"

// blanks are the characters that are blank, as the chapter lists them.
var blanks = []rune{
	0x09, 0x0B, 0x0C, 0x20, 0x85, 0xA0, 0x1680,
	0x2000, 0x2001, 0x2002, 0x2003, 0x2004, 0x2005, 0x2006, 0x2007, 0x2008, 0x2009, 0x200A,
	0x2028, 0x2029, 0x202F, 0x205F, 0x3000,
}

// pieces are what words begin and end at: blanks of one, two and three bytes, whole and cut off, ends of lines, wrong bytes, signs that a loose form leaves out.
var pieces = []string{"a", "B", "_", "-", " ", "\n", "\xc2", "\xa0", "\xc2\x85", "\xe3\x80", "\x80", "\xe2\x80\x89", "\xff", "\xc3\x89"}

func isBlank(r rune) bool {
	return slices.Contains(blanks, r)
}

// someTexts are texts of the pieces, and texts of all sorts of bytes.
func someTexts(yield func(string) bool) {
	for s := range trial.Joined(pieces, 4) {
		if !yield(s) {
			return
		}
	}
	for s := range trial.Texts() {
		if !yield(s) {
			return
		}
	}
	for _, s := range trial.LongTexts() {
		if !yield(strings.ReplaceAll(s, "A", "\u3000B ")) {
			return
		}
	}
}

// 5.1: each character, each surrogate, and numbers that are neither.
func TestBlank(t *testing.T) {
	for r := rune(-0x10000); r <= 0x120000; r++ {
		if got := words.Blank(r); got != isBlank(r) {
			t.Fatalf("Blank(%x) = %v", r, got)
		}
	}
	for _, r := range []rune{math.MinInt32, math.MinInt32 + 1, math.MaxInt32 - 1, math.MaxInt32} {
		if words.Blank(r) {
			t.Errorf("Blank(%x)", r)
		}
	}
	for _, r := range blanks {
		for bit := 21; bit < 32; bit++ { // numbers of which the lower bits alone are a blank's
			if high := int32(uint32(r) | 1<<bit); words.Blank(high) {
				t.Errorf("Blank(%x)", high)
			}
		}
	}
}

// 5.1: the ends of lines, and what stands beside the blanks.
func TestNotBlank(t *testing.T) {
	for _, r := range []rune{
		-1, 0, 0x08, 0x0A, 0x0D, 0x0E, 0x1C, 0x1F, 0x21, 0x84, 0x86, 0x9F, 0xA1, 0x167F, 0x1681, 0x180E, 0x1FFF, 0x200B,
		0x2027, 0x202A, 0x202E, 0x2030, 0x205E, 0x2060, 0x2FFF, 0x3001, 0xD800, 0xDFFF, 0xFEFF, 0xFFFD, 0x10FFFF, 0x110000,
	} {
		if words.Blank(r) {
			t.Errorf("Blank(%x)", r)
		}
	}
}

// placed is a word with its byte place.
type placed struct {
	at   int
	word string
}

func (p placed) String() string {
	return fmt.Sprintf("%d:%q", p.at, p.word)
}

func wordsOf(s string) []placed {
	var out []placed
	for at, word := range words.Each(s) {
		out = append(out, placed{at, word})
	}
	return out
}

// 5.1
func TestEach(t *testing.T) {
	for _, c := range []struct {
		text string
		want []placed
	}{
		{"", nil},
		{" ", nil},
		{"\t\v\f \u0085\u00a0\u1680\u2000\u200a\u2028\u2029\u202f\u205f\u3000", nil},
		{"a", []placed{{0, "a"}}},
		{"word", []placed{{0, "word"}}},
		{" ab", []placed{{1, "ab"}}},
		{"ab ", []placed{{0, "ab"}}},
		{"\u00a0ab\u00a0", []placed{{2, "ab"}}},
		{"\u3000ab\u3000", []placed{{3, "ab"}}},
		{"a b", []placed{{0, "a"}, {2, "b"}}},
		{"a\u0085b", []placed{{0, "a"}, {3, "b"}}},
		{"a\u2003b", []placed{{0, "a"}, {4, "b"}}},
		{"\u1680 a \u00a0\u3000 b\t\u2028", []placed{{4, "a"}, {12, "b"}}},
		{"a\nb\rc\r\n d", []placed{{0, "a\nb\rc\r\n"}, {8, "d"}}},
		{"a_b-c d", []placed{{0, "a_b-c"}, {6, "d"}}},
		{"\u00e9\u05d0 \U0001F600x", []placed{{0, "\u00e9\u05d0"}, {5, "\U0001F600x"}}},
		{"\xff", []placed{{0, "\xff"}}},
		{"a\xffb \xc3", []placed{{0, "a\xffb"}, {4, "\xc3"}}},
		{"\xff \xff", []placed{{0, "\xff"}, {2, "\xff"}}},
		{"\x80\u3000\x80", []placed{{0, "\x80"}, {4, "\x80"}}},
		{"\xc2\u00a0\xa0", []placed{{0, "\xc2"}, {3, "\xa0"}}},
		{"\xe3\x80", []placed{{0, "\xe3\x80"}}},
		{"a\xe3\x80 \x80b", []placed{{0, "a\xe3\x80"}, {4, "\x80b"}}},
		{"a\xc2", []placed{{0, "a\xc2"}}},
		{"\xa0a", []placed{{0, "\xa0a"}}},
		{"\x85 \x20\xe2\x80\x8b\xe2\x80\x8a", []placed{{0, "\x85"}, {3, "\u200b"}}},
		{"\xc0\xa0\xe0\x80\xa0", []placed{{0, "\xc0\xa0\xe0\x80\xa0"}}}, // a space written too long
		{"a\x00b", []placed{{0, "a\x00b"}}},
		{fffd + " " + fffd, []placed{{0, fffd}, {4, fffd}}},
	} {
		if got := wordsOf(c.text); !slices.Equal(got, c.want) {
			t.Errorf("Each of %q: %v", c.text, got)
		}
	}
}

// 5.1: each blank parts words, and nothing else does.
func TestEachCharacterBetweenWords(t *testing.T) {
	for r := rune(0); r <= utf8.MaxRune; r++ {
		between := string(r)
		want := []placed{{0, "a" + between + "b"}}
		if isBlank(r) {
			want = []placed{{0, "a"}, {1 + len(between), "b"}}
		}
		if got := wordsOf("a" + between + "b"); !slices.Equal(got, want) {
			t.Fatalf("a, %x, b: %v", r, got)
		}
	}
}

// checkWords says what is wrong with the words told of s, "" if nothing is, by going over its characters one by one.
func checkWords(s string, told []placed) string {
	owner := make([]int, len(s)) // which word each byte is in, from 1 on; 0: none
	end := -1                    // of the word ahead
	for i, word := range told {
		if word.at <= end || word.word == "" || word.at+len(word.word) > len(s) || s[word.at:word.at+len(word.word)] != word.word {
			return "a word is no piece, or meets the one ahead"
		}
		end = word.at + len(word.word)
		for at := word.at; at < end; at++ {
			owner[at] = i + 1
		}
	}
	for spot := range utf.Spots(s) {
		for at := spot.Byte; at < spot.Byte+spot.Width; at++ {
			if (owner[at] == 0) != isBlank(spot.Rune) {
				return "a blank stands in a word, or a character in none"
			}
		}
	}
	return ""
}

// 5.1, 5.8: the words, and what stands ahead of, between and behind them, of all sorts of texts.
func TestEachOfAll(t *testing.T) {
	for s := range someTexts {
		told := wordsOf(s)
		if wrong := checkWords(s, told); wrong != "" {
			t.Fatalf("%q: %v: %s", s, told, wrong)
		}
		whole, end, fields := "", 0, strings.FieldsFunc(s, isBlank)
		for i, word := range told {
			if i >= len(fields) || fields[i] != word.word {
				t.Fatalf("%q: %v", s, told)
			}
			whole += s[end:word.at] + word.word
			end = word.at + len(word.word)
		}
		if whole+s[end:] != s || len(told) != len(fields) {
			t.Fatalf("%q: %v", s, told)
		}
	}
}

// 5.8
func TestWordsOfTwoTexts(t *testing.T) {
	for a := range trial.Joined(pieces, 2) {
		for b := range trial.Joined(pieces, 2) {
			want := wordsOf(a)
			for at, word := range words.Each(b) {
				want = append(want, placed{len(a) + 1 + at, word})
			}
			if got := wordsOf(a + " " + b); !slices.Equal(got, want) {
				t.Fatalf("%q and %q: %v", a, b, got)
			}
		}
	}
}

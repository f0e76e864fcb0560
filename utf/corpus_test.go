package utf_test

import (
	"iter"
	"slices"
	"unicode/utf8"
)

// words yields each text of exactly size bytes out of letters.
func words(letters string, size int) iter.Seq[string] {
	return func(yield func(string) bool) {
		digits := make([]int, size)
		text := make([]byte, size)
		for {
			for i, d := range digits {
				text[i] = letters[d]
			}
			if !yield(string(text)) {
				return
			}
			i := size - 1
			for ; i >= 0 && digits[i] == len(letters)-1; i-- {
				digits[i] = 0
			}
			if i < 0 {
				return
			}
			digits[i]++
		}
	}
}

// The bytes at which something changes, one of each sort at least.
const edges = "\x00A\x7f\x80\x8f\x90\x9f\xa0\xbd\xbf\xc0\xc1\xc2\xdf\xe0\xe1\xec\xed\xef\xf0\xf1\xf4\xf5\xf7\xf8\xff"

// Fewer of them, for longer texts.
const fewEdges = "A\x80\x9f\xbf\xc3\xe0\xed\xf0\xf4"

// longer are texts of many bytes: by a plain rule, so that they are the same each time.
func longer() []string {
	var out []string
	state := uint32(1)
	for size := range 64 {
		text := make([]byte, 0, size*4)
		for range size {
			state = state*1664525 + 1013904223
			pick := int(state >> 8)
			switch state >> 30 {
			case 0:
				text = append(text, edges[pick%len(edges)])
			case 1:
				text = utf8.AppendRune(text, rune(pick%0x110000))
			case 2:
				text = utf8.AppendRune(text, rune(pick%0x900))
			default:
				text = append(text, "\xef\xbf\xbd\xe2\x82\xac\xf0\x9f\x98"[:pick%10]...)
			}
		}
		out = append(out, string(text))
	}
	return out
}

// everyByte is a text of all 256 bytes.
func everyByte() string {
	out := make([]byte, 256)
	for i := range out {
		out[i] = byte(i)
	}
	return string(out)
}

// corpus yields the texts over which the general promises are tried.
func corpus() iter.Seq[string] {
	return func(yield func(string) bool) {
		every := everyByte()
		for _, texts := range []iter.Seq[string]{
			words("", 0), words(every, 1), words(every, 2), words(edges, 3),
			words(fewEdges, 4), words(fewEdges, 5), slices.Values(longer()),
		} {
			for s := range texts {
				if !yield(s) {
					return
				}
			}
		}
	}
}

// pair is what an iterator of two tells.
type pair[A, B any] struct {
	a A
	b B
}

func collect[A, B any](seq iter.Seq2[A, B]) []pair[A, B] {
	var out []pair[A, B]
	for a, b := range seq {
		out = append(out, pair[A, B]{a, b})
	}
	return out
}

// ranged is what Go's own range over s tells.
func ranged(s string) []pair[int, rune] {
	var out []pair[int, rune]
	for at, r := range s {
		out = append(out, pair[int, rune]{at, r})
	}
	return out
}

func reversed[T any](l []T) []T {
	out := slices.Clone(l)
	slices.Reverse(out)
	return out
}

// beginnings are all shorter beginnings of all right sequences.
func beginnings() map[string]bool {
	out := map[string]bool{}
	for r := rune(0); r <= utf8.MaxRune; r++ {
		if !utf8.ValidRune(r) {
			continue
		}
		sequence := utf8.AppendRune(nil, r)
		for size := 1; size < len(sequence); size++ {
			if !out[string(sequence[:size])] {
				out[string(sequence[:size])] = true
			}
		}
	}
	return out
}

// sequence lays the number in width bytes, be that right or not.
func sequence(number, width int) string {
	if width == 1 {
		return string([]byte{byte(number)})
	}
	out := make([]byte, width)
	for i := width - 1; i > 0; i-- {
		out[i] = 0x80 | byte(number&0x3F)
		number >>= 6
	}
	out[0] = []byte{0, 0, 0xC0, 0xE0, 0xF0}[width] | byte(number)
	return string(out)
}

// Package trial holds what the tests of several layers share: texts to try them with, and how iterators are tried. No layer calls it.
package trial

import (
	"iter"
	"slices"
	"strings"
	"unicode/utf8"
)

// Words tells each list of exactly size things out of letters, which has one at least; each is memory of its own.
func Words[T any](letters []T, size int) iter.Seq[[]T] {
	return func(yield func([]T) bool) {
		digits := make([]int, size)
		for {
			word := make([]T, size)
			for i, d := range digits {
				word[i] = letters[d]
			}
			if !yield(word) {
				return
			}
			i := size - 1
			for ; i >= 0 && digits[i] == len(letters)-1; i-- {
				digits[i] = 0
			}
			if i < 0 {
				return
			}
			digits[i]++
		}
	}
}

// Joined tells each text of up to most of the pieces, one behind the other.
func Joined(pieces []string, most int) iter.Seq[string] {
	return func(yield func(string) bool) {
		for size := range most + 1 {
			for word := range Words(pieces, size) {
				if !yield(strings.Join(word, "")) {
					return
				}
			}
		}
	}
}

// edges are the bytes at which something changes, one of each sort at least.
const edges = "\x00A\x7f\x80\x8f\x90\x9f\xa0\xbd\xbf\xc0\xc1\xc2\xdf\xe0\xe1\xec\xed\xef\xf0\xf1\xf4\xf5\xf7\xf8\xff"

// fewEdges are fewer of them, for longer texts.
const fewEdges = "A\x80\x9f\xbf\xc3\xe0\xed\xf0\xf4"

// Texts tells texts of all sorts of right and wrong bytes: all of up to two bytes, all of up to five of the bytes at which something changes, and some of many bytes.
func Texts() iter.Seq[string] {
	return func(yield func(string) bool) {
		every := everyByte()
		for _, texts := range []iter.Seq[string]{
			slices.Values([]string{""}), words(every, 1), words(every, 2), words([]byte(edges), 3),
			words([]byte(fewEdges), 4), words([]byte(fewEdges), 5), slices.Values(LongTexts()),
		} {
			for s := range texts {
				if !yield(s) {
					return
				}
			}
		}
	}
}

func words(letters []byte, size int) iter.Seq[string] {
	return func(yield func(string) bool) {
		for word := range Words(letters, size) {
			if !yield(string(word)) {
				return
			}
		}
	}
}

// LongTexts are texts of many bytes: by a plain rule, so that they are the same each time.
func LongTexts() []string {
	var out []string
	next := Numbers()
	for size := range 64 {
		text := make([]byte, 0, size*4)
		for range size {
			number := next()
			pick := int(number >> 8)
			switch number >> 30 {
			case 0:
				text = append(text, edges[pick%len(edges)])
			case 1:
				text = utf8.AppendRune(text, rune(pick%0x110000))
			case 2:
				text = utf8.AppendRune(text, rune(pick%0x900))
			default:
				text = append(text, "\xef\xbf\xbd\xe2\x82\xac\xf0\x9f\x98"[:pick%10]...)
			}
		}
		out = append(out, string(text))
	}
	return out
}

// Numbers is a function that answers numbers without a plain order, the same ones each time it is made.
func Numbers() func() uint32 {
	state := uint32(1)
	return func() uint32 {
		state = state*1664525 + 1013904223
		return state
	}
}

func everyByte() []byte {
	out := make([]byte, 256)
	for i := range out {
		out[i] = byte(i)
	}
	return out
}

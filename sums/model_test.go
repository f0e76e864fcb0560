package sums_test

import (
	"slices"
	"strings"

	"furrow/trial"
)

// The words of the chapter, written down bit by bit.

// bitOf is the bit i of the bytes, counted as the chapter counts.
func bitOf(s string, i int) uint32 {
	return uint32(s[i/8]>>(i%8)) & 1
}

// turned is s with each of these bits turned.
func turned(s string, bits ...int) string {
	b := []byte(s)
	for _, i := range bits {
		b[i/8] ^= 1 << (i % 8)
	}
	return string(b)
}

// stepOver is what one bit makes of the register.
func stepOver(register, bit uint32) uint32 {
	unlike := register&1 != bit
	register /= 2
	if unlike {
		register ^= 0xEDB88320
	}
	return register
}

// runOver is what the bits of s make of the register.
func runOver(register uint32, s string) uint32 {
	for i := range len(s) * 8 {
		register = stepOver(register, bitOf(s, i))
	}
	return register
}

// sumOf is the sum of s.
func sumOf(s string) uint32 {
	return runOver(0xFFFFFFFF, s) ^ 0xFFFFFFFF
}

// fourOf is the four bytes whose sum is crc: each sum is that of just one text of four bytes. It takes the register's 32 last steps back; a step whose answer has the highest bit was one in which the two were unlike.
func fourOf(crc uint32) string {
	register := crc ^ 0xFFFFFFFF
	for range 32 {
		if register>>31 == 1 {
			register = (register^0xEDB88320)*2 + 1
		} else {
			register *= 2
		}
	}
	word := register ^ 0xFFFFFFFF
	return string([]byte{byte(word), byte(word >> 8), byte(word >> 16), byte(word >> 24)})
}

// zeroed is what the steps over n bytes 0 make of the register, by what they make of each of its bits, doubled again and again.
func zeroed(register uint32, n int) uint32 {
	var each [32]uint32
	for i := range each {
		each[i] = runOver(1<<i, "\x00")
	}
	for ; n > 0; n /= 2 {
		if n%2 == 1 {
			register = added(each, register)
		}
		var twice [32]uint32
		for i := range twice {
			twice[i] = added(each, each[i])
		}
		each = twice
	}
	return register
}

// added is what each bit of the register becomes, all of them added.
func added(each [32]uint32, register uint32) uint32 {
	var out uint32
	for i := range each {
		if register>>i&1 == 1 {
			out ^= each[i]
		}
	}
	return out
}

// unlike is the places of the bits in which a and b, of one length, differ.
func unlike(a, b string) []int {
	var out []int
	for i := range len(a) * 8 {
		if bitOf(a, i) != bitOf(b, i) {
			out = append(out, i)
		}
	}
	return out
}

// anyBytes is a text of that many bytes without a plain order.
func anyBytes(next func() uint32, size int) string {
	out := make([]byte, size)
	for i := range out {
		out[i] = byte(next() >> 24)
	}
	return string(out)
}

// someTexts are texts of many lengths: none, each single byte, short ones, long ones.
func someTexts() []string {
	out := []string{"", "123456789", "\x00\x00\x00\x00", "\xff\xff\xff\xff", strings.Repeat("\x00", 300), strings.Repeat("\xff", 301)}
	for b := range 256 {
		out = append(out, string([]byte{byte(b)}))
	}
	next := trial.Numbers()
	for size := range 40 {
		out = append(out, anyBytes(next, size))
	}
	out = append(out, anyBytes(next, 5000))
	return slices.Concat(out, trial.LongTexts())
}

// someSums are sums of all sorts: of few bits, of many, of texts, and of none that is known.
func someSums() []uint32 {
	out := []uint32{0, 0xFFFFFFFF, 0xCBF43926, 0xDEADBEEF, 0x7FFFFFFF, 0xFFFFFFFE}
	for i := range 32 {
		out = append(out, 1<<i)
	}
	next := trial.Numbers()
	for range 40 {
		out = append(out, next())
	}
	return out
}

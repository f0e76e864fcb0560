package sums

import (
	"math/bits"

	"furrow/api"
)

// tail is how many bytes a sum has.
const tail = 4

// Seal is s with the bytes of its sum behind it.
func Seal(s string) string {
	return s + sum(s)
}

// sum is the bytes of the sum of s.
func sum(s string) string {
	return string(Put(nil, CRC(s)))
}

// Open is the bytes whose sealed form s is.
func Open(s string) (string, api.Errno) {
	if len(s) < tail {
		return "", api.ErrShort
	}
	body, end := s[:len(s)-tail], s[len(s)-tail:]
	if sum(body) != end {
		return "", api.ErrSum
	}
	return body, api.OK
}

// Burst is the number of the first bit in which a and b are unlike, and how many bits there are from it to the last one; 0 and 0 of the same texts.
func Burst(a, b string) (first, length int, e api.Errno) {
	if len(a) != len(b) {
		return 0, 0, api.ErrArg
	}
	if a == b {
		return 0, 0, api.OK
	}
	begin, end := 0, len(a)-1
	for a[begin] == b[begin] {
		begin++
	}
	for a[end] == b[end] {
		end--
	}
	first = begin*8 + bits.TrailingZeros8(a[begin]^b[begin])
	last := end*8 + bits.Len8(a[end]^b[end]) - 1
	return first, last - first + 1, api.OK
}

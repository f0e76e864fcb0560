package sums

import (
	"math/bits"

	"furrow/api"
)

// width is how many bytes a number of type T has.
func width[T api.Num]() int {
	return bits.Len32(uint32(^T(0))) / 8
}

// Size is how many bytes n numbers have; 0, if n is below 0.
func Size[T api.Num](n int) int {
	return max(n, 0) * width[T]()
}

// Put is the bytes of b, and behind them those of the numbers, all in memory of its own: what b has behind its length is the caller's.
func Put[T api.Num](b []byte, l ...T) []byte {
	out := make([]byte, 0, len(b)+Size[T](len(l)))
	out = append(out, b...)
	for _, number := range l {
		out = lay(out, number)
	}
	return out
}

// lay is out with the bytes of a number behind it, the lowest first.
func lay[T api.Num](out []byte, number T) []byte {
	rest := uint32(number)
	for range width[T]() {
		out = append(out, byte(rest))
		rest >>= 8
	}
	return out
}

// Take is the n numbers whose bytes begin at the byte at of s. It asks how many there are, not how many bytes n have, as these may be more than an int can count.
func Take[T api.Num](s string, at, n int) ([]T, api.Errno) {
	if at < 0 || n < 0 || at > len(s) {
		return nil, api.ErrArg
	}
	rest, wide := s[at:], width[T]()
	if n > len(rest)/wide {
		return nil, api.ErrShort
	}
	out := make([]T, n)
	for i := range out {
		out[i] = taken[T](rest[i*wide : (i+1)*wide])
	}
	return out, api.OK
}

// taken is the number whose bytes are those of s.
func taken[T api.Num](s string) T {
	var number uint32
	for i := len(s) - 1; i >= 0; i-- {
		number <<= 8
		number |= uint32(s[i])
	}
	return T(number)
}

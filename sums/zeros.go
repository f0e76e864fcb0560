package sums

// A register is a polynomial over the bits 0 and 1, its highest bit the power 0 of x, its lowest the power 31. A step over a bit 0 is a product with x, modulo the polynomial of the sum; so n bytes 0 are one product with the power 8 n, which is found in as many steps as n has digits, however great it is.

// eighth is the power 8 of x: what a byte 0 is a product with.
const eighth = 1 << (31 - 8)

// zeros is what the register's steps over n bytes 0 make of it.
func zeros(register uint32, n int) uint32 {
	power := uint32(eighth)
	for ; n > 0; n >>= 1 {
		if n&1 == 1 {
			register = times(register, power)
		}
		power = times(power, power)
	}
	return register
}

// times is the product of two polynomials.
func times(a, b uint32) uint32 {
	var product uint32
	for ; a != 0; a <<= 1 {
		if a>>31 == 1 {
			product ^= b
		}
		b = step(b)
	}
	return product
}

// step is what a bit 0 makes of the register.
func step(register uint32) uint32 {
	low := register & 1
	register >>= 1
	if low == 1 {
		register ^= taps
	}
	return register
}

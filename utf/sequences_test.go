package utf_test

import "unicode/utf8"

// beginnings are all shorter beginnings of all right sequences.
func beginnings() map[string]bool {
	out := map[string]bool{}
	for r := rune(0); r <= utf8.MaxRune; r++ {
		if !utf8.ValidRune(r) {
			continue
		}
		sequence := utf8.AppendRune(nil, r)
		for size := 1; size < len(sequence); size++ {
			if !out[string(sequence[:size])] {
				out[string(sequence[:size])] = true
			}
		}
	}
	return out
}

// sequence lays the number in width bytes, be that right or not.
func sequence(number, width int) string {
	if width == 1 {
		return string([]byte{byte(number)})
	}
	out := make([]byte, width)
	for i := width - 1; i > 0; i-- {
		out[i] = 0x80 | byte(number&0x3F)
		number >>= 6
	}
	out[0] = []byte{0, 0, 0xC0, 0xE0, 0xF0}[width] | byte(number)
	return string(out)
}

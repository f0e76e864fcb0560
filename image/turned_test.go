package image_test

import (
	"encoding/binary"
	"fmt"
	"hash/crc32"
	"math/bits"
	"testing"

	"furrow/api"
	"furrow/image"
	"furrow/trial"
)

// tried are images to be cut and turned: the least one there is, and greater ones.
func tried(t *testing.T) map[string]string {
	return map[string]string{"plain": saved(t, plain()), "some": saved(t, some())}
}

// P13.6: each beginning of an image, and an image with bytes behind it, some of them such as make it sealed again.
func TestCutAndLonger(t *testing.T) {
	for what, s := range tried(t) {
		if e := isLoaded(t, what, s); e != api.OK {
			t.Fatal(what, e)
		}
		for size := range len(s) {
			if e := isLoaded(t, what, s[:size]); e == api.OK {
				t.Errorf("%d bytes of %s are taken", size, what)
			}
		}
		for b := range 256 {
			isRefused(t, what+" and a byte", s+string([]byte{byte(b)}), api.ErrSum)
		}
		isRefused(t, what+" and noughts", s+"\x00\x00\x00\x00", api.ErrSum)
		isRefused(t, what+" and its sum again", s+s[len(s)-4:], api.ErrSum)
		isRefused(t, what+" twice", s+s, api.ErrSum)
		isRefused(t, what+" sealed again", sealed(s), api.ErrSection)
		isRefused(t, what+" sealed twice more", sealed(sealed(s)), api.ErrSection)
	}
}

// P13.6: an image with a beginning that is sealed, as what follows in it is that beginning's sum.
func TestSealedBeginning(t *testing.T) {
	p := plain()
	body := bodyOf(p)
	from := len(begin) + 48 + 2*(544+128) + 64 // where section 6 begins
	for v := int32(1); v <= count; v++ {
		crc := int32(crc32.ChecksumIEEE([]byte(body[:from] + bytesOf(v))))
		if crc >= -count && crc <= count {
			p.Bracket.Low[0], p.Bracket.Low[1] = v, crc
			break
		}
	}
	s := saved(t, p)
	if s[:from+8] != sealed(s[:from+4]) {
		t.Fatal("its beginning is not sealed")
	}
	isRefused(t, "its beginning", s[:from+8], api.ErrSection)
	if e := isLoaded(t, "all of it", s); e != api.OK {
		t.Error(e)
	}
}

// P13.6: one bit turned, anywhere.
func TestOneBitTurned(t *testing.T) {
	t.Parallel()
	for what, s := range tried(t) {
		b := []byte(s)
		for bit := range len(s) * 8 {
			b[bit/8] ^= 1 << (bit % 8)
			isTurned(t, what, bit, b)
			b[bit/8] ^= 1 << (bit % 8)
		}
	}
}

// isTurned is whether Load and Sections refuse the bytes of an image in which bits from that one on were turned.
func isTurned(t *testing.T, what string, bit int, b []byte) {
	t.Helper()
	if p, e := image.Load(string(b)); e != api.ErrSum || !trial.SamePacked(p, api.Packed{}) {
		t.Fatalf("%s, turned at the bit %d: Load answers %v", what, bit, e)
	}
	if bit%97 == 0 {
		if l, e := image.Sections(string(b)); e != api.ErrSum || len(l) != 0 {
			t.Fatalf("%s, turned at the bit %d: Sections answers %v", what, bit, e)
		}
	}
}

// P13.6: bits turned from each place on, of each length up to 32 there and there: all of them, the first and the last alone, and some.
func TestBitsTurned(t *testing.T) {
	t.Parallel()
	next := trial.Numbers()
	for what, s := range tried(t) {
		all := len(s) * 8
		for first := range all {
			length := 2 + first%31
			if first+length > all {
				continue
			}
			ends := uint32(1) | 1<<(length-1)
			mask := ^uint32(0) >> (32 - length)
			for _, turn := range []uint32{mask, ends, ends | next()&mask}[first%3:][:1] {
				if bits.Len32(turn) != length {
					t.Fatal(fmt.Sprintf("%b is no burst of %d", turn, length))
				}
				isTurned(t, what, first, burst(s, first, turn))
			}
		}
	}
}

// burst is s with the bits of turn turned, from the bit first on.
func burst(s string, first int, turn uint32) []byte {
	b := append([]byte(s), make([]byte, 8)...)
	word := binary.LittleEndian.Uint64(b[first/8:])
	binary.LittleEndian.PutUint64(b[first/8:], word^uint64(turn)<<(first%8))
	return b[:len(s)]
}

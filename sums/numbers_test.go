package sums_test

import (
	"bytes"
	"encoding/binary"
	"math"
	"slices"
	"testing"

	"furrow/api"
	"furrow/sums"
	"furrow/trial"
)

// Types that are made of the three.
type (
	tiny  uint8
	short uint16
	long  uint32
)

// The chapter's examples of numbers.
func TestNumberExamples(t *testing.T) {
	if got := sums.Put([]byte{7}, uint16(513), 65535); string(got) != "\x07\x01\x02\xff\xff" {
		t.Errorf("Put: %x", got)
	}
	s := "\x01\x02\x03\x04\x05"
	isTaken(t, s, 1, 1, []uint32{0x05040302}, api.OK)
	isTaken[uint32](t, s, 2, 1, nil, api.ErrShort)
	isTaken[uint32](t, s, 5, 0, nil, api.OK)
	isTaken[uint32](t, s, 6, 0, nil, api.ErrArg)
}

// isTaken is whether Take answers that.
func isTaken[T api.Num](t *testing.T, s string, at, n int, want []T, why api.Errno) {
	t.Helper()
	if got, e := sums.Take[T](s, at, n); !slices.Equal(got, want) || e != why {
		t.Errorf("Take of %T(%x, %d, %d): %x, %v; not %x, %v", want, s, at, n, got, e, want, why)
	}
}

// P12.2: the bytes of numbers of each width, the least and the greatest among them, by Go's own laying.
func TestPut(t *testing.T) {
	isPut(t, []uint8{0, 1, 0x7F, 0x80, 0xFE, 0xFF})
	isPut(t, []uint16{0, 1, 0xFF, 0x100, 0x1234, 0x7FFF, 0x8000, 0xFF00, 0xFFFF})
	isPut(t, []uint32{0, 1, 0xFF, 0x100, 0x10000, 0x1000000, 0x12345678, 0x7FFFFFFF, 0x80000000, 0xFF000000, 0xFFFFFFFF})
	isPut(t, []tiny{0, 0xFF, 0x12})
	isPut(t, []short{0, 0xFFFF, 0x1234})
	isPut(t, []long{0, 0xFFFFFFFF, 0x12345678})
	isPut(t, []api.Class{api.L, api.PDI, 0xFF})
}

// isPut holds Put of the numbers, of all of them and of each beginning, against Go's own, behind no bytes and behind some; and Take and Size of what it laid.
func isPut[T api.Num](t *testing.T, l []T) {
	t.Helper()
	for _, ahead := range [][]byte{nil, {}, {7}, {1, 2, 3, 0xFF, 0}} {
		for n := range len(l) + 1 {
			want, err := binary.Append(slices.Clone(ahead), binary.LittleEndian, l[:n])
			if err != nil {
				t.Fatal(err)
			}
			got := sums.Put(ahead, l[:n]...)
			if !bytes.Equal(got, want) {
				t.Errorf("Put of %T(%x, %x): %x, not %x", l, ahead, l[:n], got, want)
			}
			if size := sums.Size[T](n); len(ahead)+size != len(want) {
				t.Errorf("Size of %T(%d): %d", l, n, size)
			}
			isTaken(t, string(got), len(ahead), n, l[:n], api.OK)
		}
	}
}

// P12.2: no numbers, behind none and behind some bytes.
func TestPutOfNone(t *testing.T) {
	if got := sums.Put[uint32](nil); len(got) != 0 {
		t.Errorf("%x", got)
	}
	if got := sums.Put([]byte{}, []uint16(nil)...); len(got) != 0 {
		t.Errorf("%x", got)
	}
	if got := sums.Put([]byte("abc"), []uint8{}...); string(got) != "abc" {
		t.Errorf("%x", got)
	}
}

// P12.2: numbers of unlike widths, one behind the other.
func TestPutOnAndOn(t *testing.T) {
	b := sums.Put(sums.Put(sums.Put(nil, uint8(1)), uint16(0x302)), uint32(0x7060504), 0xB0A0908)
	if string(b) != "\x01\x02\x03\x04\x05\x06\x07\x08\x09\x0a\x0b" {
		t.Errorf("%x", b)
	}
}

// P12.2: Size at 0, below 0, and up to the bound.
func TestSize(t *testing.T) {
	for _, n := range []int{0, 1, 2, 3, 255, 256, 65536, 1 << 20, math.MaxInt32 / 4} {
		isSize(t, n, n, n*2, n*4)
	}
	isSize(t, math.MaxInt32/2, math.MaxInt32/2, math.MaxInt32-1, math.MaxInt32/2*4)
	isSize(t, math.MaxInt32, math.MaxInt32, math.MaxInt32*2, math.MaxInt32*4)
	isSize(t, math.MaxInt/4, math.MaxInt/4, math.MaxInt/4*2, math.MaxInt/4*4)
	for _, n := range []int{-1, -2, -3, -255, math.MinInt32, math.MinInt + 1, math.MinInt} {
		isSize(t, n, 0, 0, 0)
	}
}

// isSize is whether n numbers have that many bytes, of each of the widths.
func isSize(t *testing.T, n, one, two, four int) {
	t.Helper()
	if got := []int{sums.Size[uint8](n), sums.Size[uint16](n), sums.Size[uint32](n)}; !slices.Equal(got, []int{one, two, four}) {
		t.Errorf("Size(%d): %v", n, got)
	}
	if got := []int{sums.Size[tiny](n), sums.Size[short](n), sums.Size[long](n), sums.Size[api.Class](n)}; !slices.Equal(got, []int{one, two, four, one}) {
		t.Errorf("Size(%d) of types made of them: %v", n, got)
	}
}

// P12.3: each place and each number of them about a short text, of each width, by the promise's words.
func TestTake(t *testing.T) {
	for size := range 14 {
		s := anyBytes(trial.Numbers(), size)
		for at := -3; at <= size+3; at++ {
			for n := -3; n <= size+3; n++ {
				takes[uint8](t, s, at, n, 1)
				takes[uint16](t, s, at, n, 2)
				takes[uint32](t, s, at, n, 4)
				takes[tiny](t, s, at, n, 1)
				takes[short](t, s, at, n, 2)
				takes[long](t, s, at, n, 4)
			}
		}
	}
}

// takes holds Take against the words; width is how many bytes a number has.
func takes[T api.Num](t *testing.T, s string, at, n, width int) {
	t.Helper()
	if at < 0 || n < 0 || at > len(s) {
		isTaken[T](t, s, at, n, nil, api.ErrArg)
		return
	}
	if len(s)-at < n*width {
		isTaken[T](t, s, at, n, nil, api.ErrShort)
		return
	}
	want := make([]T, n)
	for i := range want {
		value := 0
		for k, factor := 0, 1; k < width; k, factor = k+1, factor*256 {
			value += int(s[at+i*width+k]) * factor
		}
		want[i] = T(value)
	}
	isTaken(t, s, at, n, want, api.OK)
}

// P12.3: places and numbers far off, numbers of which the bytes can't be counted among them: those that wrap round to 0, to few, to below 0.
func TestTakeFar(t *testing.T) {
	s := "12345678"
	for _, n := range []int{math.MaxInt, math.MaxInt - 1, math.MaxInt/2 + 1, math.MaxInt/2 + 2, math.MaxInt/4 + 1, math.MaxInt/4 + 2, math.MaxInt / 4, 1 << 32, 1<<32 + 1, 1 << 31, 9} {
		for at := range len(s) + 1 {
			isTaken[uint8](t, s, at, n, nil, api.ErrShort)
			isTaken[uint16](t, s, at, n, nil, api.ErrShort)
			isTaken[uint32](t, s, at, n, nil, api.ErrShort)
		}
		isTaken[uint32](t, "", 0, n, nil, api.ErrShort)
		isTaken[uint32](t, s, 9, n, nil, api.ErrArg)
		isTaken[uint32](t, s, n, n, nil, api.ErrArg)
		isTaken[uint32](t, s, n, 0, nil, api.ErrArg)
		isTaken[uint32](t, s, -n, 1, nil, api.ErrArg)
		isTaken[uint32](t, s, 0, -n, nil, api.ErrArg)
	}
	isTaken[uint16](t, s, math.MinInt, math.MinInt, nil, api.ErrArg)
	isTaken[uint16](t, s, 0, math.MinInt, nil, api.ErrArg)
	isTaken[uint16](t, s, math.MinInt, 1, nil, api.ErrArg)
}

// P12.3: of the empty text, and a text's end: none.
func TestTakeOfNone(t *testing.T) {
	isTaken[uint8](t, "", 0, 0, nil, api.OK)
	isTaken[uint16](t, "", 0, 0, nil, api.OK)
	isTaken[uint32](t, "", 0, 0, nil, api.OK)
	isTaken[uint8](t, "", 0, 1, nil, api.ErrShort)
	isTaken[uint8](t, "", 1, 0, nil, api.ErrArg)
	isTaken[uint32](t, "abc", 3, 0, nil, api.OK)
	isTaken[uint32](t, "abc", 0, 0, nil, api.OK)
	isTaken[uint32](t, "abc", 4, 0, nil, api.ErrArg)
}

// P12.8: Take of what Put laid, all numbers of 16 bits and many of 32, and Put of what Take took, of all places in a text.
func TestNumbersThereAndBack(t *testing.T) {
	var all []uint16
	for n := range 1 << 16 {
		all = append(all, uint16(n))
	}
	isPutBack(t, all)
	next := trial.Numbers()
	var many []uint32
	for range 5000 {
		many = append(many, next())
	}
	isPutBack(t, many)
	s := anyBytes(next, 40)
	for at := range len(s) + 1 {
		isTakenBack[uint8](t, s, at)
		isTakenBack[uint16](t, s, at)
		isTakenBack[uint32](t, s, at)
		isTakenBack[tiny](t, s, at)
		isTakenBack[short](t, s, at)
		isTakenBack[long](t, s, at)
	}
}

func isPutBack[T api.Num](t *testing.T, l []T) {
	t.Helper()
	if got, e := sums.Take[T](string(sums.Put([]byte("abc"), l...)), 3, len(l)); !slices.Equal(got, l) || e != api.OK {
		t.Errorf("%d numbers of %T come back as others, %v", len(l), l, e)
	}
}

func isTakenBack[T api.Num](t *testing.T, s string, at int) {
	t.Helper()
	for n := 0; at+sums.Size[T](n) <= len(s); n++ {
		l, e := sums.Take[T](s, at, n)
		if got := sums.Put([]byte(s[:at]), l...); string(got) != s[:at+sums.Size[T](n)] || e != api.OK {
			t.Errorf("%T(%d, %d): %x, %v", l, at, n, got, e)
		}
	}
}

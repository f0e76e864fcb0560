package sums_test

import (
	"encoding/binary"
	"hash/crc32"
	"slices"
	"strings"
	"testing"

	"furrow/api"
	"furrow/sums"
	"furrow/trial"
)

// The chapter's examples of sealed texts and bursts.
func TestSealedExamples(t *testing.T) {
	if got := sums.Seal(""); got != "\x00\x00\x00\x00" {
		t.Errorf("%x", got)
	}
	if got := sums.Seal("a"); got != "\x61\x43\xbe\xb7\xe8" {
		t.Errorf("%x", got)
	}
	isOpened(t, "\x00\x00\x00\x00", "", api.OK)
	isOpened(t, "\x61\x43\xbe\xb7\xe8", "a", api.OK)
	isOpened(t, "abc", "", api.ErrShort)
	isOpened(t, "\x61\x43\xbe\xb7\xe9", "", api.ErrSum)
	isBurst(t, "\x00\x00", "\x00\x00", 0, 0, api.OK)
	isBurst(t, "\x00\x00", "\x80\x01", 7, 2, api.OK)
	isBurst(t, "\x01", "\x00", 0, 1, api.OK)
	isBurst(t, "\x00", "\x00\x00", 0, 0, api.ErrArg)
}

func isOpened(t *testing.T, s, want string, why api.Errno) {
	t.Helper()
	if got, e := sums.Open(s); got != want || e != why {
		t.Errorf("Open(%x): %x, %v; not %x, %v", s, got, e, want, why)
	}
}

func isBurst(t *testing.T, a, b string, first, length int, why api.Errno) {
	t.Helper()
	if f, l, e := sums.Burst(a, b); f != first || l != length || e != why {
		t.Errorf("Burst(%x, %x): %d, %d, %v; not %d, %d, %v", a, b, f, l, e, first, length, why)
	}
}

// P12.4, P12.8: texts of all sorts, sealed by Go's own means, and opened.
func TestSeal(t *testing.T) {
	for _, s := range someTexts() {
		want := binary.LittleEndian.AppendUint32([]byte(s), crc32.ChecksumIEEE([]byte(s)))
		got := sums.Seal(s)
		if got != string(want) {
			t.Errorf("Seal(%x): %x, not %x", s, got, want)
		}
		isOpened(t, got, s, api.OK)
		isOpened(t, sums.Seal(got), got, api.OK)
	}
}

// P12.4: texts of fewer than four bytes, of all sorts.
func TestOpenShort(t *testing.T) {
	isOpened(t, "", "", api.ErrShort)
	for size := 1; size <= 3; size++ {
		for word := range trial.Words([]byte("\x00\x01\x61\x80\xff"), size) {
			isOpened(t, string(word), "", api.ErrShort)
		}
	}
	for b := range 256 {
		isOpened(t, string([]byte{byte(b)}), "", api.ErrShort)
	}
}

// P12.4: texts of four bytes: the one of noughts alone is sealed; and of five: one sum for each byte.
func TestOpenOfFew(t *testing.T) {
	for word := range trial.Words([]byte("\x00\x01\x61\x80\xff"), 4) {
		if s := string(word); s != "\x00\x00\x00\x00" {
			isOpened(t, s, "", api.ErrSum)
		}
	}
	for b := range 256 {
		s := string([]byte{byte(b)})
		for other := range 256 {
			if end := sums.Seal(string([]byte{byte(other)}))[1:]; b != other {
				isOpened(t, s+end, "", api.ErrSum)
			}
		}
	}
}

// P12.4: Open against what Seal answers of all but the last four bytes; sums laid the other way round, and not turned, among them.
func TestOpen(t *testing.T) {
	ends := []func(s string) string{
		func(s string) string { return string(binary.BigEndian.AppendUint32(nil, sumOf(s))) },
		func(s string) string { return string(binary.LittleEndian.AppendUint32(nil, ^sumOf(s))) },
		func(s string) string { return string(binary.LittleEndian.AppendUint32(nil, sumOf(s)+1)) },
		func(s string) string { return string(binary.LittleEndian.AppendUint32(nil, sumOf(s+"\x00"))) },
		func(s string) string { return sums.Seal(s)[len(s):] + "\x00" },
		func(s string) string { return "\x00" + sums.Seal(s)[len(s):] },
		func(s string) string { return sums.Seal(s)[len(s) : len(s)+3] },
		func(string) string { return "" },
	}
	for _, s := range someTexts() {
		for _, end := range ends {
			sealed := s + end(s)
			if len(sealed) < 4 {
				isOpened(t, sealed, "", api.ErrShort)
			} else if body := sealed[:len(sealed)-4]; sums.Seal(body) == sealed {
				isOpened(t, sealed, body, api.OK)
			} else {
				isOpened(t, sealed, "", api.ErrSum)
			}
		}
	}
}

// P12.4, P12.7: one bit turned, anywhere; one byte made any other.
func TestOpenTurned(t *testing.T) {
	next := trial.Numbers()
	for _, s := range []string{"", "a", "a text", anyBytes(next, 33), anyBytes(next, 300)} {
		sealed := sums.Seal(s)
		for i := range len(sealed) * 8 {
			isOpened(t, turned(sealed, i), "", api.ErrSum)
		}
		for at := range sealed {
			for b := range 256 {
				if byte(b) != sealed[at] {
					isOpened(t, sealed[:at]+string([]byte{byte(b)})+sealed[at+1:], "", api.ErrSum)
				}
			}
		}
	}
}

// P12.7: bursts at each place of sealed texts: all of up to eleven bits, and many of each length up to 32.
func TestBurstIsTold(t *testing.T) {
	next := trial.Numbers()
	for _, s := range []string{"", "ab", anyBytes(next, 9)} {
		sealed := sums.Seal(s)
		for pattern := uint32(1); pattern < 1<<11; pattern += 2 {
			isTold(t, sealed, pattern)
		}
		for length := 12; length <= 32; length++ {
			isTold(t, sealed, 1|1<<(length-1))
			isTold(t, sealed, 1<<length-1)
			for range 40 {
				isTold(t, sealed, next()>>(32-length)|1|1<<(length-1))
			}
		}
	}
}

// isTold turns the pattern's bits, its lowest first, at each place of the sealed text at which there is room for it.
func isTold(t *testing.T, sealed string, pattern uint32) {
	t.Helper()
	var bits []int
	for i := range 32 {
		if pattern>>i&1 == 1 {
			bits = append(bits, i)
		}
	}
	length := bits[len(bits)-1] + 1
	for at := 0; at+length <= len(sealed)*8; at++ {
		other := turned(sealed, bits...)
		if first, l, e := sums.Burst(sealed, other); first != at || l != length || e != api.OK {
			t.Fatalf("Burst(%x, %x): %d, %d, %v", sealed, other, first, l, e)
		}
		if _, e := sums.Open(other); e != api.ErrSum {
			t.Fatalf("%x is taken, as is %x: %v", other, sealed, e)
		}
		for i := range bits {
			bits[i]++
		}
	}
}

// P12.7 speaks of up to 32 bits: of 33 there is one burst that can't be told, at each place, in the sum's own bytes too. So its bits are counted from the lowest on through the whole of a sealed text.
func TestBurstOf33(t *testing.T) {
	sealed := sums.Seal("some bytes")
	bits := []int{0}
	for i := range 32 {
		if uint32(0xEDB88320)>>i&1 == 1 {
			bits = append(bits, i+1)
		}
	}
	for at := 0; at+33 <= len(sealed)*8; at++ {
		other := turned(sealed, bits...)
		isBurst(t, sealed, other, at, 33, api.OK)
		isOpened(t, other, other[:len(other)-4], api.OK)
		for i := range bits {
			bits[i]++
		}
	}
}

// P12.7: of all texts of one length that a burst of up to 32 bits lies between, one at most is taken: two sealed ones are further apart.
func TestSealedAreFarApart(t *testing.T) {
	for size := range 3 {
		var all []string
		for word := range trial.Words([]byte("\x00\x01\x02\x80\xa5\xff"), size) {
			all = append(all, sums.Seal(string(word)))
		}
		for i, a := range all {
			for _, b := range all[i+1:] {
				if _, length, e := sums.Burst(a, b); length <= 32 || e != api.OK {
					t.Errorf("Burst(%x, %x): %d, %v", a, b, length, e)
				}
			}
		}
	}
}

// P12.5: all pairs of texts of one and two bytes, and of bytes of few bits, of one length or not, by the bits in which they are unlike.
func TestBurst(t *testing.T) {
	for a := range 256 {
		for b := range 256 {
			burstIs(t, string([]byte{byte(a)}), string([]byte{byte(b)}))
		}
	}
	texts := slices.Collect(trial.Joined(strings.Split("\x00 \x01 \x18 \x7e \x80 \xff", " "), 3))
	for _, a := range texts {
		for _, b := range texts {
			burstIs(t, a, b)
		}
	}
}

// burstIs holds Burst against the words.
func burstIs(t *testing.T, a, b string) {
	t.Helper()
	if len(a) != len(b) {
		isBurst(t, a, b, 0, 0, api.ErrArg)
		return
	}
	bits := unlike(a, b)
	if len(bits) == 0 {
		isBurst(t, a, b, 0, 0, api.OK)
		return
	}
	isBurst(t, a, b, bits[0], bits[len(bits)-1]-bits[0]+1, api.OK)
}

// P12.5: long texts: the same, unlike in the first bit, in the last, in both, in any two.
func TestBurstOfLong(t *testing.T) {
	isBurst(t, "", "", 0, 0, api.OK)
	isBurst(t, "", "a", 0, 0, api.ErrArg)
	isBurst(t, "a", "", 0, 0, api.ErrArg)
	s := anyBytes(trial.Numbers(), 1000)
	last := len(s)*8 - 1
	isBurst(t, s, strings.Clone(s), 0, 0, api.OK)
	isBurst(t, s, turned(s, 0), 0, 1, api.OK)
	isBurst(t, s, turned(s, last), last, 1, api.OK)
	isBurst(t, s, turned(s, 0, last), 0, last+1, api.OK)
	isBurst(t, s, s[1:], 0, 0, api.ErrArg)
	isBurst(t, s, s+"\x00", 0, 0, api.ErrArg)
	next := trial.Numbers()
	for range 500 {
		one, other := int(next()>>8)%(last+1), int(next()>>8)%(last+1)
		if one != other {
			isBurst(t, turned(s, one), turned(s, other), min(one, other), max(one, other)-min(one, other)+1, api.OK)
		}
	}
}

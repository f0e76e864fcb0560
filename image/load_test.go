package image_test

import (
	"encoding/binary"
	"fmt"
	"math"
	"strings"
	"testing"

	"furrow/api"
	"furrow/image"
	"furrow/trial"
)

func hex(r rune) string { return fmt.Sprintf("%04X", r) }

// isRefused is whether Load and Sections answer that error of s.
func isRefused(t *testing.T, what, s string, why api.Errno) {
	t.Helper()
	if e := isLoaded(t, what, s); e != why {
		t.Errorf("%s: %v, not %v", what, e, why)
	}
}

// P13.3: nothing, texts of fewer than four bytes, and texts that are not sealed.
func TestLoadOfUnsealed(t *testing.T) {
	for _, s := range []string{"", "\x00", "\x00\x00", "\x00\x00\x00", "F", "FUR", imaged(plain())[:3]} {
		isRefused(t, s, s, api.ErrShort)
	}
	for _, s := range []string{"FURR", begin, bodyOf(plain()), bodyOf(plain()) + "\x00\x00\x00\x00", strings.Repeat("\x00", 60) + "a"} {
		isRefused(t, s, s, api.ErrSum)
	}
}

// P13.3: sealed texts of fewer than 56 bytes, with the right beginning and with others.
func TestLoadOfShort(t *testing.T) {
	whole := bodyOf(plain())
	for size := range 56 {
		isRefused(t, fmt.Sprint(size), sealed(whole[:size]), api.ErrHead)
		isRefused(t, fmt.Sprint(size, " of no beginning"), sealed(strings.Repeat("\x00", size)), api.ErrHead)
	}
	isRefused(t, "56 bytes", sealed(whole[:56]), api.ErrSection)
	isRefused(t, "57 bytes", sealed(whole[:57]), api.ErrSection)
}

// P13.3: each byte of the beginning another one; also where the sections do not come out, or the tables may not be.
func TestLoadOfHeads(t *testing.T) {
	for _, body := range []string{bodyOf(plain()), bodyOf(plain()) + "a", bodyOf(api.Packed{})} {
		for place := range 8 {
			for b := range 256 {
				if byte(b) == begin[place] {
					continue
				}
				isRefused(t, fmt.Sprint(place, b), sealed(body[:place]+string([]byte{byte(b)})+body[place+1:]), api.ErrHead)
			}
		}
		for _, head := range []string{"furrow\x01\x00", "FURROW\x00\x01", "FURROW\x01\x01", "WORRUF\x01\x00", "\x00FURROW\x01", "FURROW10"} {
			isRefused(t, head, sealed(head+body[8:]), api.ErrHead)
		}
		isRefused(t, "two", sealed(begin[:4]+body), api.ErrHead)
		isRefused(t, "without", sealed(body[8:]), api.ErrHead)
	}
}

// P13.3: bytes too few and too many behind the 56, of an image and of tables that may not be.
func TestLoadOfOtherLengths(t *testing.T) {
	for what, p := range map[string]api.Packed{"plain": plain(), "some": some(), "none": {}} {
		body := bodyOf(p)
		for _, more := range []string{"\x00", "\x01", "\x00\x00", "\x00\x00\x00\x00", strings.Repeat("\x00", 64), body} {
			isRefused(t, what+" and more", sealed(body+more), api.ErrSection)
			isRefused(t, what+" and more ahead", sealed(body[:56]+more+body[56:]), api.ErrSection)
		}
		for size := 56; size < len(body); size++ {
			isRefused(t, fmt.Sprint(what, size), sealed(body[:size]), api.ErrSection)
		}
	}
}

// withCounts is the sealed body with other numbers of how many each section has.
func withCounts(body string, counts []uint32) string {
	return sealed(body[:8] + bytesOf(counts) + body[56:])
}

// P13.3: each number of how many there are another one.
func TestLoadOfCounts(t *testing.T) {
	for what, p := range map[string]api.Packed{"plain": plain(), "some": some(), "none": {}} {
		body := bodyOf(p)
		for kind, right := range countsOf(p) {
			for _, n := range []uint32{right + 1, right - 1, right + 64, right + 1<<30, right + 1<<31, right + 3<<30, 1<<31 - 1, 1 << 31, math.MaxUint32} {
				counts := countsOf(p)
				counts[kind] = n
				isRefused(t, fmt.Sprint(what, kind+1, n), withCounts(body, counts), api.ErrSection)
			}
		}
	}
}

// P13.3: numbers of which the bytes can't be summed in 32 bits: the sum wraps round to what is there.
func TestLoadOfGreatCounts(t *testing.T) {
	for what, p := range map[string]api.Packed{"plain": plain(), "none": {}} {
		body := bodyOf(p)
		for kind, width := range widths() {
			if width > 1 {
				counts := countsOf(p)
				counts[kind] += uint32(1 << 32 / int64(width))
				isRefused(t, fmt.Sprint(what, kind+1), withCounts(body, counts), api.ErrSection)
			}
			for other, widthToo := range widths() {
				if other == kind {
					continue
				}
				counts := countsOf(p) // together they have 2^32 bytes more
				counts[kind] += uint32(1 << 31 / int64(width))
				counts[other] += uint32(1 << 31 / int64(widthToo))
				isRefused(t, fmt.Sprint(what, kind+1, other+1), withCounts(body, counts), api.ErrSection)
			}
		}
		all := make([]uint32, 12)
		for i := range all {
			all[i] = math.MaxUint32
		}
		isRefused(t, what+" all", withCounts(body, all), api.ErrSection)
	}
}

// P13.3: as many bytes as there should be, shared out in another way: the tables may not be.
func TestLoadOfCountsMoved(t *testing.T) {
	p := some()
	body := bodyOf(p)
	for kind, width := range widths() {
		for other, widthToo := range widths() {
			if other == kind {
				continue
			}
			counts := countsOf(p)
			counts[kind] += uint32(64 * 4 / width)
			counts[other] -= uint32(64 * 4 / widthToo)
			if counts[other] > 1<<20 { // it has not so many
				continue
			}
			isRefused(t, fmt.Sprint(kind+1, other+1), withCounts(body, counts), api.ErrTable)
		}
	}
}

// P13.3: each number's bytes lie the lowest first, those of a number below 0 as they are.
func TestLoadOfBytes(t *testing.T) {
	p := plain()
	p.Bracket.Low[0], p.Bracket.Low[1] = -2, 0x10203
	p.Twin.Low[63] = count
	s := saved(t, p)
	l, _ := image.Sections(s)
	if got := s[l[5].From:][:12]; got != "\xfe\xff\xff\xff\x03\x02\x01\x00\x00\x00\x00\x00" {
		t.Errorf("%x", got)
	}
	if got := s[l[8].From+l[8].Size-4:][:4]; got != "\x00\x00\x11\x00" {
		t.Errorf("%x", got)
	}
	if e := isLoaded(t, "bytes", s); e != api.OK {
		t.Error(e)
	}
	body := []byte(s[:len(s)-4])
	binary.BigEndian.PutUint32(body[l[8].From:], 1)
	isRefused(t, "the highest first", sealed(string(body)), api.ErrTable)
}

// P13.5: tables of all sorts that Save takes come back from Load, and images that Load takes from Save.
func TestThereAndBack(t *testing.T) {
	t.Parallel()
	next := trial.Numbers()
	for n := range 40 {
		class, bracket, twin, mirror := make([]api.Class, count), make([]int32, count), make([]int32, count), make([]int32, count)
		for r := range class {
			class[r] = api.L
		}
		for range n * n {
			class[next()%count] = api.Class(next()%23 + 1)
			bracket[next()%count] = int32(next()%(2*count+1)) - count
			twin[next()%count] = int32(next() % (count + 1))
			mirror[next()%count] = int32(next() % (count + 1))
		}
		p := api.Packed{Class: trial.Parts(class), Bracket: trial.Parts(bracket), Twin: trial.Parts(twin), Mirror: trial.Parts(mirror)}
		if !isChecked(t, fmt.Sprint(n), p) {
			t.Errorf("%d: these may not be", n)
		}
	}
}

// P0.4, P13.5: sealed texts that are nearly an image: each is refused, or comes back from Save byte by byte.
func TestNearlyImages(t *testing.T) {
	t.Parallel()
	next := trial.Numbers()
	well, ill := 0, 0
	for _, p := range []api.Packed{plain(), some()} {
		whole := bodyOf(p)
		for n := range 3000 {
			body := []byte(whole)
			for range n%3 + 1 {
				place := int(next()>>4) % len(body)
				if n%2 == 0 {
					body[place] ^= 1 << (next() >> 29)
				} else {
					body[place] = byte(next() >> 24)
				}
			}
			if isLoaded(t, fmt.Sprint(n), sealed(string(body))) == api.OK {
				well++
			} else {
				ill++
			}
		}
	}
	if well < 100 || ill < 1000 {
		t.Error(well, ill)
	}
}

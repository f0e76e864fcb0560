package sums_test

import (
	"hash/crc32"
	"math"
	"strings"
	"testing"

	"furrow/api"
	"furrow/sums"
	"furrow/trial"
)

// The chapter's examples of sums.
func TestSumExamples(t *testing.T) {
	for _, got := range []uint32{
		sums.CRC("123456789"), sums.CRC("12345", "6789"), sums.More(sums.CRC("12345"), "6789"),
		joined(t, sums.CRC("12345"), sums.CRC("6789"), 4),
	} {
		if got != 0xCBF43926 {
			t.Errorf("%08X", got)
		}
	}
	if got := sums.CRC(); got != 0 {
		t.Errorf("of no part: %08X", got)
	}
	if got, e := sums.Joined(0, 0, -1); got != 0 || e != api.ErrArg {
		t.Errorf("Joined below 0: %08X, %v", got, e)
	}
}

// joined is Joined, which must not refuse.
func joined(t *testing.T, a, b uint32, n int) uint32 {
	t.Helper()
	got, e := sums.Joined(a, b, n)
	if e != api.OK {
		t.Errorf("Joined(%08X, %08X, %d): %v", a, b, n, e)
	}
	return got
}

// P12.1: the sum of no part, of empty ones, of each single byte, of texts of all sorts, by the chapter's words and by Go's own CRC-32.
func TestCRC(t *testing.T) {
	for _, got := range []uint32{sums.CRC(), sums.CRC(nil...), sums.CRC([]string{}...), sums.CRC(""), sums.CRC("", "", "")} {
		if got != 0 {
			t.Errorf("of nothing: %08X", got)
		}
	}
	for _, s := range someTexts() {
		got := sums.CRC(s)
		if got != sumOf(s) {
			t.Errorf("%q: %08X, not %08X", s, got, sumOf(s))
		}
		if got != crc32.ChecksumIEEE([]byte(s)) {
			t.Errorf("%q: %08X is no CRC-32", s, got)
		}
	}
}

// P12.1: a text of all bytes and a long one; and all texts of right and wrong characters, which are bytes like others.
func TestCRCOfManyBytes(t *testing.T) {
	long := anyBytes(trial.Numbers(), 1<<22)
	if got := sums.CRC(long); got != crc32.ChecksumIEEE([]byte(long)) {
		t.Errorf("%08X", got)
	}
	for s := range trial.Texts() {
		if got := sums.CRC(s); got != crc32.ChecksumIEEE([]byte(s)) {
			t.Fatalf("%q: %08X", s, got)
		}
	}
}

// P12.1, P12.6: parts, cut at each place and at each two places, byte by byte, empty ones between.
func TestParts(t *testing.T) {
	s := anyBytes(trial.Numbers(), 25)
	want := sumOf(s)
	for i := range len(s) + 1 {
		for j := i; j <= len(s); j++ {
			if got := sums.CRC(s[:i], s[i:j], s[j:]); got != want {
				t.Errorf("cut at %d and %d: %08X", i, j, got)
			}
		}
	}
	each := strings.Split("a plain text", "")
	if got := sums.CRC(each...); got != sumOf("a plain text") {
		t.Errorf("byte by byte: %08X", got)
	}
	many := make([]string, 3000)
	for i := range many {
		many[i] = s[:i%7]
	}
	if got := sums.CRC(many...); got != sumOf(strings.Join(many, "")) {
		t.Errorf("many: %08X", got)
	}
	if sums.CRC("a", "b") == sums.CRC("b", "a") {
		t.Error("the order of the parts does not count")
	}
}

// P12.1: More of any crc, by the four bytes that it is the sum of, with no bytes and with many.
func TestMore(t *testing.T) {
	for _, crc := range someSums() {
		four := fourOf(crc)
		if sumOf(four) != crc || sums.CRC(four) != crc {
			t.Fatalf("the sum of %x is %08X, not %08X", four, sums.CRC(four), crc)
		}
		if got := sums.More(crc, ""); got != crc {
			t.Errorf("More(%08X) of nothing: %08X", crc, got)
		}
		for size := range 20 {
			s := anyBytes(trial.Numbers(), size)
			if got := sums.More(crc, s); got != sumOf(four+s) {
				t.Errorf("More(%08X, %x): %08X", crc, s, got)
			}
		}
		long := strings.Repeat("many bytes", 100)
		if got := sums.More(crc, long); got != sumOf(four+long) {
			t.Errorf("More(%08X) of many: %08X", crc, got)
		}
	}
}

// P12.6: More and Joined of two texts are the sum of both.
func TestInPieces(t *testing.T) {
	texts := someTexts()
	for i, s := range texts {
		for j := i % 5; j < len(texts); j += 5 {
			text := texts[j]
			want := crc32.ChecksumIEEE([]byte(s + text))
			one := sums.CRC(s)
			if got := sums.CRC(s, text); got != want {
				t.Fatalf("CRC(%q, %q): %08X", s, text, got)
			}
			if got := sums.More(one, text); got != want {
				t.Fatalf("More(.., %q) behind %q: %08X", text, s, got)
			}
			if got := joined(t, one, sums.CRC(text), len(text)); got != want {
				t.Fatalf("Joined of %q and %q: %08X", s, text, got)
			}
		}
	}
}

// P12.1: Joined of any two sums at lengths from 0 on is what the register's steps make of a, added to b; also where no n bytes have the sum b.
func TestJoined(t *testing.T) {
	for _, a := range someSums() {
		register := a
		for n := range 70 {
			for _, b := range []uint32{0, 1, 0xFFFFFFFF, 0xDEADBEEF} {
				if got := joined(t, a, b, n); got != register^b {
					t.Errorf("Joined(%08X, %08X, %d): %08X, not %08X", a, b, n, got, register^b)
				}
			}
			register = runOver(register, "\x00")
		}
	}
	if got := joined(t, 0x12345678, 0x9ABCDEF0, 0); got != 0x12345678^0x9ABCDEF0 {
		t.Errorf("at 0: %08X", got)
	}
}

// P12.1: Joined of any sums, by the texts of four bytes that they are the sums of.
func TestJoinedFours(t *testing.T) {
	for _, a := range someSums() {
		for _, b := range someSums() {
			if got := joined(t, a, b, 4); got != sumOf(fourOf(a)+fourOf(b)) {
				t.Errorf("Joined(%08X, %08X, 4): %08X", a, b, got)
			}
		}
	}
}

// P12.1: lengths that no machine holds, at and beside each power of two, by what the steps make of each bit.
func TestJoinedFar(t *testing.T) {
	far := []int{math.MaxInt, math.MaxInt - 1, math.MaxInt / 8, math.MaxInt/8 + 1, math.MaxInt / 3, 1e9}
	for n := 1; n > 0; n *= 2 {
		far = append(far, n-1, n, n+1)
	}
	for _, n := range far {
		for _, a := range []uint32{0, 1, 1 << 31, 0xFFFFFFFF, 0xCBF43926} {
			if got, want := joined(t, a, 0x0F0F0F0F, n), zeroed(a, n)^0x0F0F0F0F; got != want {
				t.Errorf("Joined(%08X, .., %d): %08X, not %08X", a, n, got, want)
			}
		}
	}
}

// P12.1: n bytes and m more are n + m; and the register comes back after 2^32 - 1 steps, so also after as many bytes.
func TestJoinedAddsUp(t *testing.T) {
	next := trial.Numbers()
	for _, a := range someSums() {
		n, m := int(next())<<20, int(next())<<9
		if one, both := joined(t, joined(t, a, 0, n), 0, m), joined(t, a, 0, n+m); one != both {
			t.Errorf("%08X, %d, %d: %08X, %08X", a, n, m, one, both)
		}
		if got := joined(t, a, 0, math.MaxUint32); got != a {
			t.Errorf("%08X comes back as %08X", a, got)
		}
	}
}

// P12.1: Joined refuses each length below 0, whatever the sums.
func TestJoinedBelow(t *testing.T) {
	for _, n := range []int{-1, -2, -8, math.MinInt32, math.MinInt + 1, math.MinInt} {
		for _, a := range someSums() {
			if got, e := sums.Joined(a, ^a, n); got != 0 || e != api.ErrArg {
				t.Errorf("Joined(%08X, .., %d): %08X, %v", a, n, got, e)
			}
		}
	}
}

// P12.9: the sums of three texts of one length, added, are that of the three added.
func TestAdded(t *testing.T) {
	next := trial.Numbers()
	for size := range 200 {
		a, b, c := anyBytes(next, size), anyBytes(next, size), anyBytes(next, size)
		isAdded(t, a, b, c)
		isAdded(t, a, b, strings.Repeat("\x00", size))
		isAdded(t, a, a, a)
		isAdded(t, a, a, b)
	}
	for x := range 256 {
		isAdded(t, string([]byte{byte(x)}), "\x55", "\xff")
	}
}

func isAdded(t *testing.T, a, b, c string) {
	t.Helper()
	all := make([]byte, len(a))
	for i := range all {
		all[i] = a[i] ^ b[i] ^ c[i]
	}
	if got, want := sums.CRC(a)^sums.CRC(b)^sums.CRC(c), sums.CRC(string(all)); got != want {
		t.Errorf("%x, %x, %x: %08X, not %08X", a, b, c, got, want)
	}
}

package sums_test

import (
	"bytes"
	"slices"
	"testing"

	"furrow/api"
	"furrow/sums"
)

// P0.1, P12.2: what is handed to Put stays as it was, also behind the length of b where its memory goes on; and what Put answers is memory of its own, its spare room too.
func TestPutKeepsNothing(t *testing.T) {
	room := []byte("some bytes and room behind them")
	before := bytes.Clone(room)
	numbers := []uint16{1, 2, 3, 4, 5}
	for n := range len(numbers) + 1 {
		for size := range len(room) + 1 {
			got := sums.Put(room[:size], numbers[:n]...)
			want := bytes.Clone(got)
			other := sums.Put(room[:size], numbers[:n]...)
			spoil(other)
			if !bytes.Equal(room, before) || !slices.Equal(numbers, []uint16{1, 2, 3, 4, 5}) {
				t.Fatalf("behind %d bytes: %x, %v", size, room, numbers)
			}
			spoil(room)
			if !bytes.Equal(got, want) {
				t.Fatalf("behind %d bytes: %x shares with what was handed in, or with another answer", size, got)
			}
			copy(room, before)
		}
	}
}

// spoil writes over b and the room behind it.
func spoil(b []byte) {
	all := b[:cap(b)]
	for i := range all {
		all[i] ^= 0xFF
	}
}

// P0.1: what Take answers is memory of its own each time.
func TestTakeIsNewEachTime(t *testing.T) {
	s := string([]byte("123456789"))
	one, _ := sums.Take[uint8](s, 0, 9)
	other, _ := sums.Take[uint8](s, 0, 9)
	spoil(one)
	if string(other) != "123456789" || s != "123456789" {
		t.Errorf("%q, %q", other, s)
	}
}

// P0.1: the parts of a sum are not changed, and what is answered does not hang on what is changed later, nor on what else is called.
func TestCRCKeepsNothing(t *testing.T) {
	parts := []string{"12345", "6789", "more", "and more"}
	before := slices.Clone(parts)
	for range 2 {
		if got := sums.CRC(parts[:2]...); got != 0xCBF43926 {
			t.Errorf("%08X", got)
		}
		sums.More(7, "something else")
		sums.Joined(1, 2, 3)
		sums.Joined(1, 2, -3)
		sums.Open("no text that is sealed")
	}
	if !slices.Equal(parts, before) {
		t.Error(parts)
	}
}

// P0.1: many at a time answer what each alone does.
func TestAtOnce(t *testing.T) {
	texts := someTexts()
	done := make(chan bool)
	for range 4 {
		go func() {
			good := true
			for _, s := range texts {
				opened, e := sums.Open(sums.Seal(s))
				good = good && opened == s && e == api.OK
			}
			done <- good
		}()
	}
	for range 4 {
		if !<-done {
			t.Error("not the same")
		}
	}
}

// The numbers that layer 12 owns.
func TestErrors(t *testing.T) {
	if api.ErrShort != 120 || api.ErrSum != 121 {
		t.Error(int(api.ErrShort), int(api.ErrSum))
	}
}

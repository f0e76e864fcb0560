package trial

import (
	"iter"
	"slices"
	"strconv"
)

// Pair is what an iterator of two tells.
type Pair[A, B any] struct {
	A A
	B B
}

// Collect is what the iterator tells.
func Collect[A, B any](seq iter.Seq2[A, B]) []Pair[A, B] {
	var out []Pair[A, B]
	for a, b := range seq {
		out = append(out, Pair[A, B]{a, b})
	}
	return out
}

// Beside tells what seq tells, each with its number, from 0 on.
func Beside[T any](seq iter.Seq[T]) iter.Seq2[int, T] {
	return func(yield func(int, T) bool) {
		n := 0
		for x := range seq {
			if !yield(n, x) {
				return
			}
			n++
		}
	}
}

// Ranged is what Go's own range over s tells.
func Ranged(s string) []Pair[int, rune] {
	var out []Pair[int, rune]
	for at, r := range s {
		out = append(out, Pair[int, rune]{at, r})
	}
	return out
}

// Reversed is l from behind.
func Reversed[T any](l []T) []T {
	out := slices.Clone(l)
	slices.Reverse(out)
	return out
}

// LeaveEarly goes over seq up to each of its items in turn, and over it again, and over it within itself: nothing may be told behind the item at which it was left, and each walk must begin anew. It says what is wrong, "" if nothing is.
func LeaveEarly[A, B comparable](seq iter.Seq2[A, B]) string {
	all := Collect(seq)
	if len(all) < 4 {
		return "too little is told to try it"
	}
	for stop := 1; stop <= len(all); stop++ {
		if !slices.Equal(leaveAt(seq, stop), all[:stop]) {
			return "left behind " + strconv.Itoa(stop) + ", it tells something else"
		}
	}
	if !slices.Equal(Collect(seq), all) {
		return "gone over again, it tells something else"
	}
	var outer []Pair[A, B]
	for a, b := range seq {
		outer = append(outer, Pair[A, B]{a, b})
		if !slices.Equal(Collect(seq), all) {
			return "gone over within itself, it tells something else"
		}
	}
	if !slices.Equal(outer, all) {
		return "with a walk within it, it tells something else"
	}
	return ""
}

// leaveAt is what seq tells to one who leaves it at the item of that number; calls behind it, too, which a range would not live through.
func leaveAt[A, B any](seq iter.Seq2[A, B], stop int) []Pair[A, B] {
	var got []Pair[A, B]
	seq(func(a A, b B) bool {
		got = append(got, Pair[A, B]{a, b})
		return len(got) < stop
	})
	return got
}

package mirrors_test

import (
	"slices"
	"testing"

	"furrow/api"
	"furrow/mirrors"
)

// P0.1: what is handed in is not changed, spare room included.
func TestListsAreLeft(t *testing.T) {
	all := append(examples(), turns(0x28, 0x29, 'a', 'a', -1, 'b')...)
	before := slices.Clone(all)
	for size := range len(all) + 1 {
		l := all[:size]
		mirrors.Check(l...)
		mirrors.Print(l...)
		mirrors.Of(l, 0x28)
		mirrors.Text(l, "(«\xff")
		if !slices.Equal(all, before) {
			t.Fatalf("of %d the list is changed to %v", size, all)
		}
	}
	fields := []string{"0028", "0029", "002A"}
	mirrors.Scan(api.Line{Kind: api.LineData, Fields: fields[:2]})
	if !slices.Equal(fields, []string{"0028", "0029", "002A"}) {
		t.Errorf("Scan changed the fields to %q", fields)
	}
}

// P0.1: what Read answers is memory of its own each time, spare room included.
func TestReadIsNew(t *testing.T) {
	const s = "0028; 0029\n0029; 0028\n00AB; 00BB\n00BB; 00AB\n003C; 003E\n003E; 003C"
	first, second := readWhole(t, s), readWhole(t, s)
	want := slices.Clone(first)
	clear(first[:cap(first)])
	if !slices.Equal(second, want) || !slices.Equal(readWhole(t, s), want) {
		t.Errorf("written over, it changes another answer to %v", second)
	}
}

// P0.1: nothing is kept from call to call, and an answer is the same each time.
func TestCallsAreApart(t *testing.T) {
	for range 3 {
		isChecked(t, examples(), 0, api.OK)
		isChecked(t, turns(0x28, 0x29), 0, api.ErrTwist)
		isTurned(t, examples(), "(«", ")»", 2)
		isTurned(t, turns(0x28, 'x'), "(«", "x«", 1)
		isRefused(t, "f", "0028; 0029", 1, api.ErrTwist)
		isRead(t, "0028; 0029\n0029; 0028", numbered(pairs(0x28, 0x29))...)
		isOf(t, turns(0x28, 'y'), 0x28, 'y', true)
		isOf(t, nil, 0x28, 0x28, false)
	}
}

// P0.1: a list that is written over between two calls is asked as it is then.
func TestListsAreNotKept(t *testing.T) {
	l := pairs('a', 'b')
	isTurned(t, l, "ab", "ba", 2)
	l[0].To = 'c'
	isTurned(t, l, "ab", "ca", 2)
	isOf(t, l, 'a', 'c', true)
	isChecked(t, l, 0, api.ErrTwist)
}

// The numbers that layer 9 owns.
func TestErrors(t *testing.T) {
	if api.ErrTwist != 90 || api.ErrSelf != 91 || api.ErrAgain != 92 {
		t.Error(int(api.ErrTwist), int(api.ErrSelf), int(api.ErrAgain))
	}
}

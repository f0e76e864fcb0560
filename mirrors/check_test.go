package mirrors_test

import (
	"slices"
	"testing"

	"furrow/api"
	"furrow/mirrors"
	"furrow/trial"
)

// P9.2: the chapter's examples.
func TestCheck(t *testing.T) {
	isChecked(t, examples(), 0, api.OK)
	isChecked(t, turns(0x28, 0x29), 0, api.ErrTwist)
	isChecked(t, turns(0x28, 0x28), 0, api.ErrSelf)
	isChecked(t, append(examples(), turns(0x28, 0x29)...), 4, api.ErrAgain)
}

// P9.2: no mirrors.
func TestCheckNothing(t *testing.T) {
	isChecked(t, nil, 0, api.OK)
	isChecked(t, []api.Mirror{}, 0, api.OK)
	if at, why := mirrors.Check(); at != 0 || why != api.OK {
		t.Errorf("Check() = %d, %d", at, why)
	}
}

// P9.2: pairs in any order.
func TestCheckOrders(t *testing.T) {
	l := pairs('(', ')', '[', ']', 0, api.MaxRune)
	count := 0
	for order := range trial.Words([]int{0, 1, 2, 3, 4, 5}, len(l)) {
		if sorted := slices.Sorted(slices.Values(order)); len(slices.Compact(sorted)) < len(l) {
			continue
		}
		var turned []api.Mirror
		for _, at := range order {
			turned = append(turned, l[at])
		}
		isChecked(t, turned, 0, api.OK)
		count++
	}
	if count != 720 {
		t.Errorf("%d orders", count)
	}
}

// P9.2: numbers at the edges of what may be, as From, as To and as both.
func TestCheckNumbers(t *testing.T) {
	for _, r := range []rune{0, 1, 0xD7FF, 0xD800, 0xDFFF, 0xE000, 0xFFFD, 0xFFFF, 0x10000, api.MaxRune - 1, api.MaxRune} {
		isChecked(t, pairs(r, 'x'), 0, api.OK)
		isChecked(t, append(examples(), pairs('x', r)...), 0, api.OK)
		isChecked(t, turns(r, r), 0, api.ErrSelf)
	}
	for _, r := range []rune{-1, -2, least, beyond, beyond + 1, most} {
		for _, l := range [][]api.Mirror{turns(r, 'x'), turns('x', r), turns(r, r), turns(r, -r), pairs(r, 'x'), pairs('x', r)} {
			isChecked(t, l, 0, api.ErrArg)
			isChecked(t, append(examples(), l...), 4, api.ErrArg)
			isChecked(t, append(turns('a', 'b'), l...), 1, api.ErrArg)
		}
	}
}

// P9.2: a To whose mirror leads elsewhere, or nowhere; of two such the first.
func TestCheckTwists(t *testing.T) {
	for _, c := range []struct {
		l  []api.Mirror
		at int
	}{
		{turns('a', 'b'), 0},
		{turns('a', 'b', 'b', 'c'), 0},
		{turns('a', 'b', 'b', 'c', 'c', 'a'), 0},
		{turns('a', 'b', 'b', 'c', 'c', 'b'), 0},
		{turns('b', 'c', 'c', 'b', 'a', 'b'), 2},
		{append(examples(), turns('a', '(')...), 4},
		{append(examples(), turns('a', 'b', 'b', 'd')...), 4},
		{append(turns('x', 'y'), examples()...), 0},
		{turns(0, api.MaxRune), 0},
		{turns('x', 0), 0}, // what is not there has no To, be it 0
		{turns(0, 'x'), 0},
	} {
		isChecked(t, c.l, c.at, api.ErrTwist)
	}
}

// P9.2: two things wrong at once, in one mirror and in two: by place, but a twist behind all else.
func TestCheckTwiceWrong(t *testing.T) {
	for _, c := range []struct {
		l   []api.Mirror
		at  int
		why api.Errno
	}{
		{turns(-1, -1), 0, api.ErrArg},
		{turns(beyond, beyond), 0, api.ErrArg},
		{turns('a', 'b', 'a', 'a'), 1, api.ErrSelf},
		{turns('a', 'b', 'a', -1), 1, api.ErrArg},
		{turns('a', 'a', -1, 'b'), 0, api.ErrSelf},
		{turns(-1, 'b', 'a', 'a'), 0, api.ErrArg},
		{turns('a', 'b', 'a', 'b', 'c', 'c'), 1, api.ErrAgain},
		{turns('a', 'b', 'c', 'c', 'a', 'b'), 1, api.ErrSelf},
		{turns('a', 'b', 'a', 'c', 'd', -1), 1, api.ErrAgain},
		{turns('a', 'b', 'd', -1, 'a', 'c'), 1, api.ErrArg},
		{turns('x', 'y', 'a', 'b', 'a', 'b'), 2, api.ErrAgain},
		{turns('x', 'y', 'a', 'a'), 1, api.ErrSelf},
		{turns('x', 'y', 'a', most), 1, api.ErrArg},
		{turns('x', 'y', 'a', 'b', 'y', 'x'), 1, api.ErrTwist},
	} {
		isChecked(t, c.l, c.at, c.why)
	}
}

// P9.2: two of one From, next to one another, apart, and three of them.
func TestCheckAgain(t *testing.T) {
	isChecked(t, turns('a', 'b', 'a', 'b'), 1, api.ErrAgain)
	isChecked(t, turns('a', 'b', 'a', 'c'), 1, api.ErrAgain)
	isChecked(t, append(pairs('a', 'b', 'c', 'd'), turns('b', 'a')...), 4, api.ErrAgain)
	isChecked(t, append(pairs('a', 'b'), turns('b', 'c', 'a', 'c')...), 2, api.ErrAgain)
	isChecked(t, append(pairs('a', 'b'), turns('c', 'b')...), 2, api.ErrTwist) // one To twice is another thing
}

// someMirrors are mirrors of which lists are made.
func someMirrors() []api.Mirror {
	return turns('a', 'b', 'b', 'a', 'a', 'c', 'c', 'a', 'b', 'c', 'c', 'b', 'a', 'a', 0, api.MaxRune, api.MaxRune, 0, 0xD800, 0xFFFD, 0xFFFD, 0xD800, -1, 'a', 'a', -1, beyond, 0, 0xFFFD, beyond)
}

// lists tells all lists of up to four of someMirrors.
func lists(each func(l []api.Mirror)) {
	for size := range 5 {
		for l := range trial.Words(someMirrors(), size) {
			each(l)
		}
	}
}

// P9.2: all lists of up to four mirrors; Line and Best are whatever they are.
func TestCheckAllLists(t *testing.T) {
	seen := map[api.Errno]int{}
	next := trial.Numbers()
	lists(func(l []api.Mirror) {
		at, why := wrongOf(l)
		isChecked(t, l, at, why)
		seen[why]++
		for i := range l {
			number := int32(next())
			l[i].Line, l[i].Best = int(number), number < 0
		}
		isChecked(t, l, at, why)
	})
	for _, why := range []api.Errno{api.OK, api.ErrArg, api.ErrSelf, api.ErrAgain, api.ErrTwist} {
		if seen[why] < 100 {
			t.Errorf("%d only %d times", why, seen[why])
		}
	}
}

// P9.2: Line and Best count for nothing: not for what is the same, and not for what leads back.
func TestCheckLineAndBest(t *testing.T) {
	l := []api.Mirror{{Line: 9, From: 'a', To: 'b', Best: true}, {Line: -9, From: 'b', To: 'a'}}
	isChecked(t, l, 0, api.OK)
	isChecked(t, append(l, api.Mirror{Line: 10, From: 'a', To: 'b'}), 2, api.ErrAgain)
}

// P9.2: a long list, each of whose Froms is another.
func TestCheckLongList(t *testing.T) {
	const many = 1 << 17
	var l []api.Mirror
	for r := range rune(many) {
		l = append(l, api.Mirror{From: r, To: many*2 - 1 - r})
	}
	for r := range rune(many) {
		l = append(l, api.Mirror{From: many*2 - 1 - r, To: r})
	}
	isChecked(t, l, 0, api.OK)
	isChecked(t, l[:len(l)-1], many-1, api.ErrTwist)
	isChecked(t, append(l, l[0]), len(l), api.ErrAgain)
}

package tables_test

import (
	"fmt"
	"testing"

	"furrow/api"
	"furrow/tables"
	"furrow/trial"
)

// 14.1: each way of being amiss by itself, and the number that is told; 0 and OK, if nothing is.
func TestAmiss(t *testing.T) {
	for what, c := range map[string]struct {
		change func(w world)
		r      rune
		why    api.Errno
	}{
		"nothing": {func(w world) {}, 0, api.OK},

		"the other one is no bracket":               {func(w world) { w.bracket['a'] = 'b' + 1; w.class['a'] = api.ON }, 'a', api.ErrAmiss},
		"the other one, 0, is no bracket":           {func(w world) { withoutEnds(w); w.bracket['a'] = 1; w.class['a'] = api.ON }, 'a', api.ErrAmiss},
		"0's other one is no bracket":               {func(w world) { withoutEnds(w); w.bracket[0] = 'a' + 1 }, 0, api.ErrAmiss},
		"one that closes, the other one is none":    {func(w world) { w.bracket['a'] = -('b' + 1); w.class['a'] = api.ON }, 'a', api.ErrAmiss},
		"the other one opens, too":                  {func(w world) { w.pair('a', 'b'); w.bracket['b'] = 'a' + 1 }, 'a', api.ErrAmiss},
		"the other one closes, too":                 {func(w world) { w.pair('a', 'b'); w.bracket['a'] = -('b' + 1) }, 'a', api.ErrAmiss},
		"the other one has another one":             {func(w world) { w.bracket['a'] = 0x29 + 1; w.class['a'] = api.ON }, 'a', api.ErrAmiss},
		"the other one has another one, ahead":      {func(w world) { w.bracket[0x20] = 0x29 + 1; w.class[0x20] = api.ON }, 0x20, api.ErrAmiss},
		"its other one is itself":                   {func(w world) { w.bracket['a'] = 'a' + 1; w.class['a'] = api.ON }, 'a', api.ErrAmiss},
		"it closes itself":                          {func(w world) { w.bracket['a'] = -('a' + 1); w.class['a'] = api.ON }, 'a', api.ErrAmiss},
		"the last number's other one is no more":    {func(w world) { b := w.bracket[last]; withoutEnds(w); w.bracket[last] = b }, last, api.ErrAmiss},
		"the class of one that opens is not ON":     {func(w world) { w.class[0x28] = api.L }, 0x28, api.ErrAmiss},
		"the class of one that closes is not ON":    {func(w world) { w.class[0x29] = api.WS }, 0x29, api.ErrAmiss},
		"the class of the first number is not ON":   {func(w world) { w.class[0] = api.BN }, 0, api.ErrAmiss},
		"the class of the last number is not ON":    {func(w world) { w.class[last] = api.PDI }, last, api.ErrAmiss},
		"the class of what is no bracket is none's": {func(w world) { w.class[0x27] = api.R }, 0, api.OK},

		"a twin of what is no bracket":           {func(w world) { w.twin['a'] = 0x28 + 1 }, 'a', api.ErrAmiss},
		"a twin, 0, of what is no bracket":       {func(w world) { w.twin['a'] = 1 }, 'a', api.ErrAmiss},
		"a twin of itself, that is no bracket":   {func(w world) { w.twin['a'] = 'a' + 1 }, 'a', api.ErrAmiss},
		"a twin of itself":                       {func(w world) { w.twin[0x28] = 0x28 + 1 }, 0x28, api.ErrAmiss},
		"twins of themselves":                    {func(w world) { w.twin[0x28], w.twin[0x29] = 0x28+1, 0x29+1 }, 0x28, api.ErrAmiss},
		"a twin that is no bracket":              {func(w world) { w.twin[0x28] = 'a' + 1 }, 0x28, api.ErrAmiss},
		"a twin of the other side":               {func(w world) { w.twin[0x28], w.twin[0x29] = 0x300A, 0x3009 }, 0x28, api.ErrAmiss},
		"a twin of the other side, its own":      {func(w world) { w.twin[0x28] = 0x29 + 1 }, 0x28, api.ErrAmiss},
		"a twin that has a twin":                 {func(w world) { w.twin[0x28], w.twin[0x29] = 0x232A, 0x232B }, 0x28, api.ErrAmiss},
		"twins that have each other as twins":    {func(w world) { twins(w, 0x28, 0x3008); twins(w, 0x3008, 0x28) }, 0x28, api.ErrAmiss},
		"a twin that has a twin, which had none": {func(w world) { twins(w, 0x3008, 0x28) }, 0x2329, api.ErrAmiss},
		"twins of two pairs":                     {func(w world) { w.twin[0x28], w.twin[0x29] = 0x3009, 1 }, 0x28, api.ErrAmiss},
		"a twin, and the other one has none":     {func(w world) { w.twin[0x28] = 0x3009 }, 0x28, api.ErrAmiss},
		"the other one's twin alone":             {func(w world) { w.twin[0x29] = 0x300A }, 0x29, api.ErrAmiss},
		"one twin of the last numbers alone":     {func(w world) { delete(w.twin, 1) }, last - 1, api.ErrAmiss},
		"a twin more, that goes with them":       {func(w world) { twins(w, 0x28, 0x3008) }, 0, api.OK},
		"a twin at the ends":                     {func(w world) { delete(w.twin, 1); delete(w.twin, last-1); twins(w, last, 0x28) }, 0, api.OK},

		"its own mirror":                  {func(w world) { w.mirror['a'] = 'a' + 1 }, 'a', api.ErrAmiss},
		"0, its own mirror":               {func(w world) { w.mirror[0] = 1 }, 0, api.ErrAmiss},
		"the last one, its own mirror":    {func(w world) { w.mirror[last] = count }, last, api.ErrAmiss},
		"a bracket, its own mirror":       {func(w world) { w.mirror[0x28] = 0x29 }, 0x28, api.ErrAmiss},
		"a mirror that has no mirror":     {func(w world) { w.mirror['a'] = 'b' + 1 }, 0, api.OK},
		"a mirror that has another one":   {func(w world) { w.mirror['a'], w.mirror['b'] = 'b'+1, 'c'+1 }, 0, api.OK},
		"a bracket's mirror, no bracket":  {func(w world) { w.mirror[0x28] = 'a' + 1 }, 0, api.OK},
		"0's mirror, and one that has it": {func(w world) { w.mirror[0], w.mirror[1] = 2, 1 }, 0, api.OK},

		"a mirror ahead of a twin":    {func(w world) { w.mirror['a'], w.twin['b'] = 'a'+1, 1 }, 'a', api.ErrAmiss},
		"a twin ahead of a bracket":   {func(w world) { w.twin['a'], w.bracket['b'] = 1, 1 }, 'a', api.ErrAmiss},
		"a bracket ahead of a mirror": {func(w world) { w.bracket['a'], w.mirror['b'] = 1, 'b'+1 }, 'a', api.ErrAmiss},
	} {
		w := round()
		c.change(w)
		got, r, why := tables.Over(w.packed())
		if r != c.r || why != c.why || (got == nil) != (c.why != api.OK) {
			t.Errorf("%s: %X, %v, not %X, %v", what, r, why, c.r, c.why)
		}
		isMade(t, what, got, r, why, w)
	}
}

// withoutEnds takes out the brackets at both ends, and the twins that they are.
func withoutEnds(w world) {
	delete(w.twin, 1)
	delete(w.twin, last-1)
	delete(w.bracket, 0)
	delete(w.bracket, last)
}

// twins makes the bracket as, and its other one, the twins of the bracket r, and its other one.
func twins(w world, r, as rune) {
	other, _ := w.bracketOf(r)
	asOther, _ := w.bracketOf(as)
	w.twin[r], w.twin[other] = as+1, asOther+1
}

// 14.1, 14.2: small tables of all sorts: brackets, twins and mirrors laid without a plain order, and things changed in such as go together.
func TestManyTables(t *testing.T) {
	t.Parallel()
	next := trial.Numbers()
	pick := func(bound int) int { return int(next()>>8) % bound }
	points := []rune{0, 1, 0x28, 0x29, 0x40, 0xFFFD, last - 1, last}
	met := map[api.Errno]int{}
	for n := range 2500 {
		w := newWorld(api.ON)
		if n%2 == 0 {
			w = someThatFit(pick)
		}
		for range 1 + pick(4) {
			r, v := points[pick(len(points))], points[pick(len(points))]+1
			switch pick(8) {
			case 0:
				w.class[r] = api.Class(pick(25))
			case 1, 2:
				w.bracket[r] = v
			case 3, 4:
				w.bracket[r] = -v
			case 5:
				w.twin[r] = v * int32(pick(2))
			case 6:
				w.mirror[r] = v
			default:
				delete(w.twin, r)
				delete(w.bracket, r)
			}
		}
		met[isOver(t, fmt.Sprint(n), w)]++
	}
	if met[api.OK] < 200 || met[api.ErrAmiss] < 800 || met[api.ErrPacked] < 30 {
		t.Error(met)
	}
}

// someThatFit is tables with four pairs that go together, some of which are twins of the first one, or of the second.
func someThatFit(pick func(int) int) world {
	w := newWorld(api.ON)
	opens := []rune{0, 0x28, 0x40, last}
	closes := []rune{1, 0x29, 0xFFFD, last - 1}
	for i := range opens {
		w.pair(opens[i], closes[i])
	}
	for i := 2; i < 4; i++ {
		if as := pick(3); as < 2 {
			twins(w, opens[i], opens[as])
		}
	}
	return w
}

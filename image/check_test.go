package image_test

import (
	"fmt"
	"math"
	"slices"
	"testing"

	"furrow/api"
	"furrow/image"
)

// P13.2: no tables, and tables with one table or more that is none.
func TestCheckOfNone(t *testing.T) {
	for bits := range 16 {
		p := plain()
		if bits&1 == 0 {
			p.Class = api.Parts[api.Class]{}
		}
		if bits&2 == 0 {
			p.Bracket = api.Parts[int32]{}
		}
		if bits&4 == 0 {
			p.Twin = api.Parts[int32]{Top: []uint16{}, Mid: []uint16{}, Low: []int32{}}
		}
		if bits&8 == 0 {
			p.Mirror = api.Parts[int32]{}
		}
		if got := isChecked(t, fmt.Sprint(bits), p); got != (bits == 15) {
			t.Error(bits, got)
		}
	}
	if s, e := image.Save(api.Packed{}); s != "" || e != api.ErrTable {
		t.Error(s, e)
	}
}

// P13.2: classes, at the first number and at the last, and within.
func TestCheckOfClasses(t *testing.T) {
	for class := range 256 {
		for _, place := range []int{0, 63, 64, 191} {
			p := some()
			p.Class.Low[place] = api.Class(class)
			if got := isChecked(t, fmt.Sprint(class, place), p); got && (class < 1 || class > 23) {
				t.Error(class, "goes well")
			}
		}
	}
}

// P13.2: numbers outside in each of the others, and the last ones within.
func TestCheckOfValues(t *testing.T) {
	values := []int32{math.MinInt32, math.MinInt32 + 1, -count - 2, -count - 1, -count, -count + 1, -0x1000, -2, -1, 0, 1, 2, 0xD800, 0xFFFE, count - 1, count, count + 1, count + 2, math.MaxInt32 - 1, math.MaxInt32}
	for what, list := range map[string]func(p *api.Packed) []int32{
		"Bracket": func(p *api.Packed) []int32 { return p.Bracket.Low },
		"Twin":    func(p *api.Packed) []int32 { return p.Twin.Low },
		"Mirror":  func(p *api.Packed) []int32 { return p.Mirror.Low },
	} {
		for _, v := range values {
			p := some()
			for _, place := range []int{5, 65, len(list(&p)) - 5} {
				p = some()
				list(&p)[place] = v
				within := v <= 0x110000 && (v >= 0 || v >= -0x110000 && what == "Bracket")
				if got := isChecked(t, fmt.Sprint(what, v, place), p); got != within {
					t.Error(what, v, place, got)
				}
			}
		}
	}
}

// P13.2: each number of each Top and Mid, and each value, changed: most of them to what makes them no trie's.
func TestCheckWithOneChanged(t *testing.T) {
	t.Parallel()
	if !isChecked(t, "unchanged", some()) {
		t.Fatal("some may not be")
	}
	well, ill := 0, 0
	try := func(what string, place int, p api.Packed) {
		if isChecked(t, fmt.Sprint(what, place), p) {
			well++
		} else {
			ill++
		}
	}
	for kind, list := range listsOf(some()) {
		for place := range len(bytesOf(list)) / widths()[kind] {
			if place%64 > 8 && place%64 < 60 && kind%3 < 2 { // such are like those beside them
				continue
			}
			p := some()
			switch l := listsOf(p)[kind].(type) {
			case []uint16:
				l[place] = []uint16{0, 1, 2, 3, 65535}[(place+kind)%5]
			case []api.Class:
				l[place] = api.Class(place % 25)
			case []int32:
				l[place] = []int32{0, 1, 2, count, count + 1, -1}[(place+kind)%6]
			}
			try(fmt.Sprint("section ", kind+1, " at "), place, p)
		}
	}
	if well < 200 || ill < 200 {
		t.Error(well, ill)
	}
}

// P13.2: sections with numbers more or fewer.
func TestCheckOfLengths(t *testing.T) {
	for _, n := range []int{1, 63, 64} {
		for kind := range 12 {
			for _, more := range []bool{false, true} {
				p := some()
				of := []*api.Parts[int32]{nil, &p.Bracket, &p.Twin, &p.Mirror}[kind/3]
				switch {
				case kind == 2:
					p.Class.Low = resized(p.Class.Low, n, more)
				case kind%3 == 2:
					of.Low = resized(of.Low, n, more)
				case kind < 2:
					list := []*[]uint16{&p.Class.Top, &p.Class.Mid}[kind]
					*list = resized(*list, n, more)
				default:
					list := []*[]uint16{&of.Top, &of.Mid}[kind%3]
					*list = resized(*list, n, more)
				}
				if isChecked(t, fmt.Sprint(kind+1, n, more), p) {
					t.Error(kind+1, n, more, "goes well")
				}
			}
		}
	}
}

// resized is the list with n numbers fewer, or as many more as its first.
func resized[V any](list []V, n int, more bool) []V {
	if more {
		return slices.Concat(list, slices.Repeat(list[:1], n))
	}
	return slices.Clone(list[:len(list)-n])
}

// P13.2: a table more than there are numbers for, with values that no number has: right ones, and wrong.
func TestCheckOfUnmet(t *testing.T) {
	for _, v := range []int32{0, 7, -1, count + 1} {
		p := plain()
		p.Mirror.Low = append(p.Mirror.Low, slices.Repeat([]int32{v}, 64)...)
		if isChecked(t, fmt.Sprint(v), p) {
			t.Error(v, "goes well")
		}
	}
	p := plain()
	p.Bracket.Mid = append(p.Bracket.Mid, make([]uint16, 64)...)
	if isChecked(t, "two middle blocks", p) {
		t.Error("goes well")
	}
	p = plain()
	p.Class = api.Parts[api.Class]{Top: p.Class.Top, Mid: slices.Repeat([]uint16{1}, 64), Low: slices.Repeat([]api.Class{api.L, api.R}, 64)}
	if isChecked(t, "the second block alone", p) {
		t.Error("goes well")
	}
}

// P13.2: whether tables go together is not asked: brackets alone, twins of no brackets, mirrors of themselves.
func TestCheckOfTablesApart(t *testing.T) {
	p := plain()
	p.Bracket.Low[5], p.Twin.Low[7], p.Mirror.Low[9] = 1, 8, 10
	if !isChecked(t, "apart", p) {
		t.Error("refused")
	}
}

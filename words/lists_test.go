package words_test

import (
	"slices"
	"strings"
	"testing"

	"furrow/api"
	"furrow/trial"
	"furrow/words"
)

// 5.4
func TestClasses(t *testing.T) {
	for _, c := range []struct {
		text  string
		want  []api.Class
		place int
		why   api.Errno
	}{
		{"L  R_", []api.Class{api.L, api.R}, 0, api.OK},
		{"L X R", nil, 2, api.ErrNoClass},
		{"", nil, 0, api.OK},
		{" ", nil, 0, api.OK},
		{"\u3000\u00a0\t\u2028", nil, 0, api.OK},
		{"pdi", []api.Class{api.PDI}, 0, api.OK},
		{"\u3000pdi\u00a0", []api.Class{api.PDI}, 0, api.OK},
		{"L L L", []api.Class{api.L, api.L, api.L}, 0, api.OK},
		{"Arabic_Letter\u2003left-to-right\tW_S", []api.Class{api.AL, api.L, api.WS}, 0, api.OK},
		{"Arabic Letter", nil, 0, api.ErrNoClass}, // two words, none of them a name
		{"X", nil, 0, api.ErrNoClass},
		{" X", nil, 1, api.ErrNoClass},
		{"X L R", nil, 0, api.ErrNoClass},
		{"L R X", nil, 4, api.ErrNoClass},
		{"L R X ", nil, 4, api.ErrNoClass},
		{"L X Y", nil, 2, api.ErrNoClass},
		{"L Y X", nil, 2, api.ErrNoClass},
		{"L _ R", nil, 2, api.ErrNoClass},
		{"L -", nil, 2, api.ErrNoClass},
		{"L\nR", nil, 0, api.ErrNoClass},
		{"L \nR", nil, 2, api.ErrNoClass},
		{"L R\n", nil, 2, api.ErrNoClass},
		{"L\u3000X", nil, 4, api.ErrNoClass},
		{"\u00a0L\u00a0\u3000 X R", nil, 9, api.ErrNoClass},
		{"\u2003\u2003AL\u1680\u05d0", nil, 11, api.ErrNoClass},
		{"L \xffL", nil, 2, api.ErrNoClass},
		{"L L\xe3\x80 R", nil, 2, api.ErrNoClass},
		{"\x80 L", nil, 0, api.ErrNoClass},
		{"\u3000\x80 L X", nil, 3, api.ErrNoClass},
		{"L \xc2\u00a0R", nil, 2, api.ErrNoClass},
		{"L R " + fffd, nil, 4, api.ErrNoClass},
		{"L,R", nil, 0, api.ErrNoClass},
	} {
		got, place, why := words.Classes(c.text)
		if !slices.Equal(got, c.want) || place != c.place || why != c.why {
			t.Errorf("Classes of %q: %v, %d, %v", c.text, got, place, why)
		}
	}
}

// plainClasses is what Classes answers, by cutting off the words one by one.
func plainClasses(known map[string]api.Class, s string) ([]api.Class, int, api.Errno) {
	var out []api.Class
	for at := 0; ; {
		at = len(s) - len(strings.TrimLeftFunc(s[at:], isBlank))
		if at == len(s) {
			return out, 0, api.OK
		}
		size := strings.IndexFunc(s[at:], isBlank)
		if size < 0 {
			size = len(s) - at
		}
		c, is := known[looseOf(s[at:at+size])]
		if !is {
			return nil, at, api.ErrNoClass
		}
		out = append(out, c)
		at += size
	}
}

// 5.4: of all sorts of lists.
func TestClassesOfAll(t *testing.T) {
	known := classByLoose()
	check := func(s string) {
		got, place, why := words.Classes(s)
		want, wantPlace, wantWhy := plainClasses(known, s)
		if !slices.Equal(got, want) || place != wantPlace || why != wantWhy || why != api.OK && got != nil {
			t.Fatalf("Classes of %q: %v, %d, %v", s, got, place, why)
		}
	}
	for s := range trial.Joined([]string{"L", "a", "R_", "pdi", "white-SPACE", " ", "\u00a0", "\u3000", "\xe3\x80", "\x80", "\n"}, 5) {
		check(s)
	}
	for s := range trial.Texts() {
		check(s)
	}
	for _, first := range classNames {
		for _, second := range classNames {
			check(first.short + " " + second.long)
			check(first.long + "\u2003" + second.short + "\t")
		}
	}
}

// 5.4
func TestWrite(t *testing.T) {
	for _, c := range []struct {
		list []api.Class
		want string
		why  api.Errno
	}{
		{nil, "", api.OK},
		{[]api.Class{}, "", api.OK},
		{[]api.Class{api.L}, "L", api.OK},
		{[]api.Class{api.L, api.PDI}, "L PDI", api.OK},
		{[]api.Class{api.NSM, api.NSM, api.B, api.S}, "NSM NSM B S", api.OK},
		{[]api.Class{24}, "", api.ErrArg},
		{[]api.Class{0}, "", api.ErrArg},
		{[]api.Class{255}, "", api.ErrArg},
	} {
		if got, why := words.Write(c.list...); got != c.want || why != c.why {
			t.Errorf("Write of %v: %q, %v", c.list, got, why)
		}
	}
	if got, why := words.Write(); got != "" || why != api.OK {
		t.Errorf("Write(): %q, %v", got, why)
	}
	all := make([]api.Class, 0, api.Classes)
	for _, n := range classNames {
		all = append(all, n.class)
	}
	const wrote = "L R AL EN ES ET AN CS NSM BN B S WS ON LRE LRO RLE RLO PDF LRI RLI FSI PDI"
	if got, why := words.Write(all...); got != wrote || why != api.OK {
		t.Errorf("Write of all: %q, %v", got, why)
	}
}

// 5.4: one that is no class, at each place.
func TestWriteOfNoClass(t *testing.T) {
	for size := 1; size <= 4; size++ {
		for at := range size {
			for _, none := range []api.Class{0, 24, 25, 128, 255} {
				list := []api.Class{api.L, api.PDI, api.WS, api.R}[:size]
				list[at] = none
				if got, why := words.Write(list...); got != "" || why != api.ErrArg {
					t.Errorf("Write of %v: %q, %v", list, got, why)
				}
			}
		}
	}
}

// 5.7
func TestClassesOfWrite(t *testing.T) {
	check := func(list []api.Class) {
		wrote, why := words.Write(list...)
		got, place, other := words.Classes(wrote)
		if !slices.Equal(got, list) || place != 0 || why != api.OK || other != api.OK {
			t.Fatalf("%v: %q, %v; %v, %d, %v", list, wrote, why, got, place, other)
		}
	}
	var all []api.Class
	for c := api.L; c <= api.PDI; c++ {
		all = append(all, c)
	}
	for size := range 4 {
		for list := range trial.Words(all, size) {
			check(list)
		}
	}
	next := trial.Numbers()
	for size := range 200 {
		list := make([]api.Class, size)
		for i := range list {
			list[i] = all[int(next()>>8)%len(all)]
		}
		check(list)
	}
}

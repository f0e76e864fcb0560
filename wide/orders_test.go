package wide_test

import (
	"slices"
	"testing"

	"furrow/api"
	"furrow/wide"
)

var orders = []api.Order{api.HighFirst, api.LowFirst}

// 2.7
func TestLay(t *testing.T) {
	for _, c := range []struct {
		o    api.Order
		mark bool
		u    []uint16
		want string
	}{
		{api.LowFirst, true, []uint16{0x61}, "\xff\xfe\x61\x00"},
		{api.HighFirst, true, []uint16{0x61}, "\xfe\xff\x00\x61"},
		{api.LowFirst, false, []uint16{0x61, 0xD83D}, "\x61\x00\x3d\xd8"},
		{api.HighFirst, false, []uint16{0x61, 0xD83D}, "\x00\x61\xd8\x3d"},
		{api.LowFirst, true, nil, "\xff\xfe"},
		{api.HighFirst, true, nil, "\xfe\xff"},
		{api.LowFirst, false, nil, ""},
		{api.HighFirst, false, []uint16{}, ""},
		{api.LowFirst, true, []uint16{0xFEFF}, "\xff\xfe\xff\xfe"},
		{api.HighFirst, false, []uint16{0xFFFE, 0xFFFF, 0}, "\xff\xfe\xff\xff\x00\x00"},
	} {
		if got, code := wide.Lay(c.o, c.mark, c.u...); got != c.want || code != api.OK {
			t.Errorf("Lay(%d, %v, %x) = %x, %v", c.o, c.mark, c.u, got, code)
		}
	}
}

// 2.7
func TestRead(t *testing.T) {
	for _, c := range []struct {
		o     api.Order
		s     string
		u     []uint16
		stood api.Order
	}{
		{api.HighFirst, "\xff\xfe\x61\x00", []uint16{0x61}, api.LowFirst},
		{api.LowFirst, "\xff\xfe\x61\x00", []uint16{0x61}, api.LowFirst},
		{api.LowFirst, "\xfe\xff\x00\x61", []uint16{0x61}, api.HighFirst},
		{api.HighFirst, "\xfe\xff\x00\x61", []uint16{0x61}, api.HighFirst},
		{api.HighFirst, "\x00\x61", []uint16{0x61}, api.HighFirst},
		{api.LowFirst, "\x00\x61", []uint16{0x6100}, api.LowFirst},
		{api.HighFirst, "", nil, api.HighFirst},
		{api.LowFirst, "", nil, api.LowFirst},
		{api.LowFirst, "\xfe\xff", nil, api.HighFirst}, // the mark alone
		{api.HighFirst, "\xff\xfe", nil, api.LowFirst},
		{api.LowFirst, "\xfe\xff\xfe\xff", []uint16{0xFEFF}, api.HighFirst}, // two marks: the second one is a unit
		{api.HighFirst, "\xff\xfe\xff\xfe", []uint16{0xFEFF}, api.LowFirst},
		{api.LowFirst, "\xfe\xff\xff\xfe", []uint16{0xFFFE}, api.HighFirst}, // one of each
		{api.HighFirst, "\xff\xfe\xfe\xff", []uint16{0xFFFE}, api.LowFirst},
		{api.HighFirst, "\x00\x61\xff\xfe", []uint16{0x61, 0xFFFE}, api.HighFirst}, // not at the head
		{api.LowFirst, "\x00\xfe\xff\x00", []uint16{0xFE00, 0x00FF}, api.LowFirst},
		{api.HighFirst, "\xfe\xfe\xff\xff", []uint16{0xFEFE, 0xFFFF}, api.HighFirst},
		{api.LowFirst, "\xd8\x3d\x12\x34", []uint16{0x3DD8, 0x3412}, api.LowFirst},
	} {
		u, stood, code := wide.Read(c.o, c.s)
		if !slices.Equal(u, c.u) || stood != c.stood || code != api.OK {
			t.Errorf("Read(%d, %x) = %x, %d, %v", c.o, c.s, u, stood, code)
		}
	}
}

// 2.7: wrong orders come ahead of an odd number of bytes; beside an error all is zero.
func TestLayAndReadRefuse(t *testing.T) {
	for _, o := range []api.Order{2, 3, 128, 255} {
		for _, mark := range []bool{false, true} {
			if s, code := wide.Lay(o, mark, 0x61); s != "" || code != api.ErrArg {
				t.Errorf("Lay(%d) = %x, %v", o, s, code)
			}
			if s, code := wide.Lay(o, mark); s != "" || code != api.ErrArg {
				t.Errorf("Lay(%d) of nothing = %x, %v", o, s, code)
			}
		}
		for _, s := range []string{"", "a", "ab", "abc", "\xfe\xff", "\xff\xfe\x00"} {
			if u, stood, code := wide.Read(o, s); len(u) != 0 || stood != 0 || code != api.ErrArg {
				t.Errorf("Read(%d, %x) = %x, %d, %v", o, s, u, stood, code)
			}
		}
	}
	for _, o := range orders {
		for _, s := range []string{"a", "\xfe", "\xff", "abc", "\xfe\xff\x00", "\xff\xfe\x00", "\xff\xfe\xff\xfe\x00"} {
			if u, stood, code := wide.Read(o, s); len(u) != 0 || stood != 0 || code != api.ErrOdd {
				t.Errorf("Read(%d, %x) = %x, %d, %v", o, s, u, stood, code)
			}
		}
	}
}

// 2.7: each unit, byte by byte.
func TestEachUnit(t *testing.T) {
	for n := range 1 << 16 {
		high, low := byte(n>>8), byte(n)
		for o, want := range map[api.Order]string{api.HighFirst: string([]byte{high, low}), api.LowFirst: string([]byte{low, high})} {
			s, code := wide.Lay(o, false, uint16(n))
			if s != want || code != api.OK {
				t.Fatalf("Lay(%d, %x) = %x, %v", o, n, s, code)
			}
			u, _, code := wide.Read(o, "ab"+s)
			if len(u) != 2 || u[1] != uint16(n) || code != api.OK {
				t.Fatalf("Read(%d, %x) = %x, %v", o, s, u, code)
			}
		}
	}
}

// 2.11
func TestSentAndRead(t *testing.T) {
	for u := range lists() {
		for _, o := range orders {
			for _, p := range orders {
				s, code := wide.Lay(p, true, u...)
				if len(s) != 2*len(u)+2 || code != api.OK {
					t.Fatalf("Lay(%d, %x) = %x, %v", p, u, s, code)
				}
				if got, stood, code := wide.Read(o, s); !slices.Equal(got, u) || stood != p || code != api.OK {
					t.Fatalf("Read(%d, %x) = %x, %d, %v", o, s, got, stood, code)
				}
			}
			s, code := wide.Lay(o, false, u...)
			if len(s) != 2*len(u) || code != api.OK {
				t.Fatalf("Lay(%d, %x) = %x, %v", o, u, s, code)
			}
			if len(u) > 0 && (u[0] == 0xFEFF || u[0] == 0xFFFE) {
				continue
			}
			if got, stood, code := wide.Read(o, s); !slices.Equal(got, u) || stood != o || code != api.OK {
				t.Fatalf("Read(%d, %x) = %x, %d, %v", o, s, got, stood, code)
			}
		}
	}
}

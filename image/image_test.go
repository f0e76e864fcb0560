package image_test

import (
	"slices"
	"testing"

	"furrow/api"
	"furrow/base"
	"furrow/image"
	"furrow/trial"
)

// The chapter's examples.
func TestExamples(t *testing.T) {
	b := compiled(t, api.Files{})
	s, e := image.Make(b)
	if e != api.OK || len(s) != 3580 || s[:8] != "\x46\x55\x52\x52\x4F\x57\x01\x00" || s[8:20] != "\x10\x01\x00\x00\x40\x00\x00\x00\x40\x00\x00\x00" {
		t.Fatalf("%v: %d bytes, %x", e, len(s), s)
	}
	l, e := image.Sections(s)
	if e != api.OK || len(l) != 12 || l[0] != (api.Section{Kind: 1, From: 56, Size: 544}) || l[2] != (api.Section{Kind: 3, From: 728, Size: 64}) || l[11] != (api.Section{Kind: 12, From: 3320, Size: 256}) {
		t.Fatal(l, e)
	}
	p, e := image.Load(s)
	if e != api.OK || p.Class.Low[0] != api.L || p.Bracket.Low[0] != 0 || p.Twin.Mid[63] != 0 {
		t.Fatal(p, e)
	}
	zeros := string(make([]byte, 52))
	other := []byte(s)
	other[100]++
	for _, c := range []struct {
		s   string
		why api.Errno
	}{
		{"", api.ErrShort}, {s[:len(s)-1], api.ErrSum}, {string(other), api.ErrSum}, {sealed(""), api.ErrHead}, {sealed(begin + zeros[:48]), api.ErrTable},
		{sealed(begin + zeros), api.ErrSection}, {sealed("FURROW\x02\x00" + zeros[:48]), api.ErrHead},
	} {
		if e := isLoaded(t, "example", c.s); e != c.why {
			t.Errorf("Load(%x): %v, not %v", c.s, e, c.why)
		}
	}
	isNone(t, nil)
	if e := image.Check(api.Packed{}); e != api.ErrTable {
		t.Error(e)
	}
}

// isNone is whether Pack and Make refuse b.
func isNone(t *testing.T, b *base.Base) {
	t.Helper()
	if p, e := image.Pack(b); e != api.ErrNil || !trial.SamePacked(p, api.Packed{}) {
		t.Errorf("Pack answers %v, %v", p, e)
	}
	if s, e := image.Make(b); e != api.ErrNil || s != "" {
		t.Errorf("Make answers %x, %v", s, e)
	}
}

// P13.1: no base, and those that Compile did not make, or refused to.
func TestPackOfNone(t *testing.T) {
	isNone(t, nil)
	isNone(t, &base.Base{})
	isNone(t, new(base.Base))
	for _, f := range []api.Files{{Rows: "x"}, {Classes: "x"}, {Brackets: "0028; 0029; o\n"}, {Mirrors: "0028; 0029\n0029; 0028\n"}} {
		b, err := base.Compile(f)
		if err == nil {
			t.Fatal("compiled")
		}
		isNone(t, b)
	}
}

// P13.1, P13.7: bases of all sorts, each number from 0 to MaxRune asked; what Pack answers may be.
func TestPack(t *testing.T) {
	for what, f := range trial.Databases() {
		b := compiled(t, f)
		want := trial.Asked(b)
		p, e := image.Pack(b)
		if e != api.OK || !trial.SamePacked(p, want) {
			t.Fatalf("%s: Pack answers %v, or other tables", what, e)
		}
		if !isChecked(t, what, p) {
			t.Errorf("%s: these may not be", what)
		}
		if s, e := image.Make(b); e != api.OK || s != imaged(want) {
			t.Errorf("%s: Make answers %d bytes, %v, or other ones", what, len(s), e)
		}
	}
}

// P13.1: what each kind of value is, at the numbers that have one, and beside them.
func TestPackedValues(t *testing.T) {
	for _, c := range []struct {
		what                  string
		r                     int
		bracket, twin, mirror int32
	}{
		{"the ends", 0, -0x110000, 0, 0x110000}, {"the ends", 1, 0x10FFFF, 0, 0}, {"the ends", 2, 0, 0, 0},
		{"the ends", 0x10FFFD, 0, 0, 0}, {"the ends", 0x10FFFE, -2, 0, 0}, {"the ends", 0x10FFFF, 1, 0, 1},
		{"the other ends", 0, 0, 0, 0}, {"the other ends", 1, 0x110000, 0, 0}, {"the other ends", 5, 0x10FFFB, 2, 0},
		{"the other ends", 6, 0, 0, 0}, {"the other ends", 0x10FFFA, -6, 0x110000, 0}, {"the other ends", 0x10FFFF, -2, 0, 0},
	} {
		p, e := image.Pack(compiled(t, trial.Databases()[c.what]))
		if e != api.OK {
			t.Fatal(e)
		}
		if b, w, m := trial.ValueAt(p.Bracket, c.r), trial.ValueAt(p.Twin, c.r), trial.ValueAt(p.Mirror, c.r); b != c.bracket || w != c.twin || m != c.mirror || trial.ValueAt(p.Class, c.r) != api.ON {
			t.Errorf("%s: %X has %X, %X, %X", c.what, c.r, b, w, m)
		}
	}
}

// P13.1: what is the same as itself has no twin, nor has what is no bracket.
func TestPackedTwins(t *testing.T) {
	p, _ := image.Pack(compiled(t, trial.Databases()["twins"]))
	for r, twin := range map[int]int32{0x28: 0, 0x29: 0, 0x2329: 0x3009, 0x232A: 0x300A, 0x3008: 0, 0x3009: 0} {
		if trial.ValueAt(p.Twin, r) != twin {
			t.Errorf("the twin of %X is %X", r, trial.ValueAt(p.Twin, r))
		}
	}
	p, _ = image.Pack(compiled(t, trial.Databases()["mirrors"]))
	if trial.ValueAt(p.Twin, 0xFFFD) != 0 || trial.ValueAt(p.Mirror, 0xFFFD) != 0x10FFFF || trial.ValueAt(p.Mirror, 0x10FFFE) != 0xFFFE || trial.ValueAt(p.Bracket, 0x3C) != 0 {
		t.Error("other values")
	}
}

// P13.7: a class of each number, surrogates among them.
func TestPackedClasses(t *testing.T) {
	p, e := image.Pack(compiled(t, trial.Databases()["surrogates"]))
	if e != api.OK {
		t.Fatal(e)
	}
	for r, class := range map[int]api.Class{0: api.L, 0x58F: api.L, 0x590: api.R, 0x8FF: api.R, 0x900: api.L, 0xD7FF: api.L, 0xD800: api.AL, 0xD801: api.NSM, 0xDFFE: api.NSM, 0xDFFF: api.BN, 0xE000: api.L, 0x10FFFE: api.L, 0x10FFFF: api.B} {
		if trial.ValueAt(p.Class, r) != class {
			t.Errorf("the class of %X is %d", r, trial.ValueAt(p.Class, r))
		}
	}
}

// P13.1: the greatest tables of a base that there are: classes of which no two blocks of 64 are the same.
func TestPackOfUnlike(t *testing.T) {
	var lines []string
	for block := range rune(17408) {
		for bit := range rune(16) {
			if block>>bit&1 == 1 {
				lines = append(lines, hex(block*64+bit)+"; R")
			}
		}
	}
	b := compiled(t, api.Files{Classes: trial.Text(lines...)})
	p, e := image.Pack(b)
	if e != api.OK || len(p.Class.Low) != count || len(p.Class.Mid) != 17408 || !trial.SamePacked(p, trial.Asked(b)) {
		t.Fatal(e, len(p.Class.Low), len(p.Class.Mid))
	}
	if !isChecked(t, "unlike blocks", p) {
		t.Error("these may not be")
	}
}

// P13.5: the images of databases are the same just if their tables are.
func TestImagesApart(t *testing.T) {
	var tables []api.Packed
	var images []string
	for _, f := range trial.Databases() {
		b := compiled(t, f)
		p, _ := image.Pack(b)
		s, _ := image.Make(compiled(t, b.Files()))
		tables, images = append(tables, p), append(images, s)
	}
	tables, images = append(tables, some(), plain()), append(images, saved(t, some()), saved(t, plain()))
	for i := range tables {
		for j := range tables {
			if trial.SamePacked(tables[i], tables[j]) != (images[i] == images[j]) {
				t.Errorf("%d and %d", i, j)
			}
		}
	}
	if alike := len(slices.Compact(slices.Sorted(slices.Values(images)))); alike != len(images)-1 { // plain is the base of no files
		t.Errorf("%d unlike images of %d", alike, len(images))
	}
}

// saved is the image that Save answers, which must go well.
func saved(t *testing.T, p api.Packed) string {
	t.Helper()
	s, e := image.Save(p)
	if e != api.OK {
		t.Fatal(e)
	}
	return s
}

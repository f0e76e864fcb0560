package image_test

import (
	"testing"

	"furrow/api"
	"furrow/image"
	"furrow/trial"
)

// P13.4, P13.8: the sections lie one behind the other from the byte 56 on, four bytes behind the last, and in them their numbers' bytes.
func TestSections(t *testing.T) {
	for what, f := range trial.Databases() {
		p, e := image.Pack(compiled(t, f))
		if e != api.OK {
			t.Fatal(what, e)
		}
		areSections(t, what, p)
	}
	areSections(t, "some", some())
	areSections(t, "plain", plain())
}

func areSections(t *testing.T, what string, p api.Packed) {
	t.Helper()
	s := saved(t, p)
	l, e := image.Sections(s)
	if e != api.OK || len(l) != 12 {
		t.Fatal(what, l, e)
	}
	from := 56
	for i, list := range listsOf(p) {
		want := bytesOf(list)
		if l[i] != (api.Section{Kind: uint8(i + 1), From: from, Size: len(want)}) {
			t.Errorf("%s: %d is %v", what, i, l[i])
		} else if s[from:][:len(want)] != want {
			t.Errorf("%s: the bytes of %d are others", what, i)
		}
		from += len(want)
	}
	if from+4 != len(s) {
		t.Errorf("%s: %d bytes behind the last", what, len(s)-from)
	}
}

// P13.4: Load's error of what is no image, and no sections.
func TestSectionsOfNone(t *testing.T) {
	for _, c := range []struct {
		s   string
		why api.Errno
	}{
		{"", api.ErrShort}, {"abc", api.ErrShort}, {"abcd", api.ErrSum}, {sealed(""), api.ErrHead}, {sealed("abc"), api.ErrHead},
		{sealed(begin), api.ErrHead}, {sealed(bodyOf(plain()) + "a"), api.ErrSection}, {imaged(api.Packed{}), api.ErrTable}, {imaged(plain())[1:], api.ErrSum},
	} {
		if l, e := image.Sections(c.s); len(l) != 0 || e != c.why {
			t.Errorf("Sections(%x): %v, %v, not %v", c.s, l, e, c.why)
		}
	}
}

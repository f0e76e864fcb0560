package image_test

import (
	"fmt"
	"slices"
	"strings"
	"testing"

	"furrow/api"
	"furrow/image"
	"furrow/trial"
)

// P0.1: what is handed to Check and Save stays as it was, the room behind it too, and is not kept.
func TestNothingIsChangedOrKept(t *testing.T) {
	for _, right := range []api.Packed{some(), plain()} {
		p := trial.Roomy(right)
		before := trial.CopyPacked(trial.Whole(p))
		want := imaged(right)
		if image.Check(p) != api.OK {
			t.Fatal("refused")
		}
		s := saved(t, p)
		if !trial.SamePacked(trial.Whole(p), before) {
			t.Fatal("what was handed in is changed")
		}
		trial.Spoil(p)
		if s != want || isLoaded(t, "kept", s) != api.OK {
			t.Error("the image hangs on what was handed in")
		}
		if e := image.Check(p); e != api.ErrTable {
			t.Error(e)
		}
		isSaved(t, "once more", right, want)
	}
}

// P0.1: what Pack and Load answer is memory of its own, each list of it, each time.
func TestAnswersShareNothing(t *testing.T) {
	b := compiled(t, trial.Databases()["twins"])
	want := trial.Asked(b)
	s := imaged(want)
	for what, call := range map[string]func() (api.Packed, api.Errno){
		"Pack": func() (api.Packed, api.Errno) { return image.Pack(b) },
		"Load": func() (api.Packed, api.Errno) { return image.Load(s) },
	} {
		kept, _ := call()
		one, _ := call()
		trial.Spoil(one)
		if again, e := call(); e != api.OK || !trial.SamePacked(again, want) || !trial.SamePacked(kept, want) {
			t.Errorf("%s: what is answered hangs on what was", what)
		}
		for kind := range 12 {
			p, _ := call()
			switch l := listsOf(p)[kind].(type) {
			case []uint16:
				trial.SpoilList(l)
			case []api.Class:
				trial.SpoilList(l)
			case []int32:
				trial.SpoilList(l)
			}
			for other, list := range listsOf(p) {
				if other != kind && bytesOf(list) != bytesOf(listsOf(want)[other]) {
					t.Errorf("%s: the lists %d and %d share memory", what, kind+1, other+1)
				}
			}
		}
	}
	l, _ := image.Sections(s)
	kept := slices.Clone(l)
	clear(l[:cap(l)])
	if again, _ := image.Sections(s); !slices.Equal(again, kept) || s != imaged(want) {
		t.Error("Sections shares what it answers")
	}
}

// P0.1: the base stays as it was, and what is answered does not hang on what else is called.
func TestBasesStay(t *testing.T) {
	b, other := compiled(t, trial.Databases()["twins"]), compiled(t, trial.Databases()["many"])
	before := b.Files()
	s, _ := image.Make(b)
	for range 2 {
		image.Make(nil)
		image.Load("no image")
		image.Load(s[1:])
		image.Make(other)
		p, _ := image.Pack(b)
		trial.Spoil(p)
		if again, e := image.Make(b); again != s || e != api.OK || b.Files() != before {
			t.Fatal("another image, or another base")
		}
	}
}

// P0.1, P0.4: any bytes, as they are, sealed, behind the right beginning, and behind the numbers of sections.
func TestAnyBytes(t *testing.T) {
	zeros := strings.Repeat("\x00", 48)
	for _, s := range slices.Concat(trial.LongTexts(), []string{"", "\x00", "\xff", strings.Repeat("\xff", 300), strings.Repeat("\x00", 300)}) {
		for i, text := range []string{s, sealed(s), sealed(begin + s), sealed(begin + zeros + s), begin + zeros + s} {
			if e := isLoaded(t, fmt.Sprintf("%d: %x", i, s), text); e == api.OK {
				t.Errorf("%d: %x is taken", i, s)
			}
		}
	}
}

// P0.1: many at a time answer what each alone does.
func TestAtOnce(t *testing.T) {
	b := compiled(t, trial.Databases()["many"])
	want, _ := image.Make(b)
	done := make(chan bool)
	for range 4 {
		go func() {
			good := true
			for range 5 {
				s, e := image.Make(b)
				p, f := image.Load(s)
				_, g := image.Load(s[1:])
				again, h := image.Save(p)
				good = good && s == want && again == want && e == api.OK && f == api.OK && g == api.ErrSum && h == api.OK
			}
			done <- good
		}()
	}
	for range 4 {
		if !<-done {
			t.Error("not the same")
		}
	}
}

// The numbers that layer 13 owns.
func TestErrors(t *testing.T) {
	if api.ErrHead != 130 || api.ErrSection != 131 || api.ErrTable != 132 {
		t.Error(int(api.ErrHead), int(api.ErrSection), int(api.ErrTable))
	}
}

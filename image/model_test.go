package image_test

import (
	"encoding/binary"
	"hash/crc32"
	"slices"
	"sync"
	"testing"

	"furrow/api"
	"furrow/base"
	"furrow/image"
	"furrow/trial"
)

const (
	count = api.MaxRune + 1 // of numbers, and the greatest value that tells of one
	begin = "FURROW\x01\x00"
)

// The words of the chapter, written down by Go's own means; nothing of the layers below is called but what tells what a base is like.

// isFunction is whether p is the parts of some function.
func isFunction[V comparable](p api.Parts[V]) bool {
	if len(p.Top) != 272 || len(p.Mid)%64 != 0 || len(p.Low)%64 != 0 {
		return false
	}
	return isNumbered(p.Top, p.Mid) && isNumbered(p.Mid, p.Low)
}

// isNumbered is whether numbers name the blocks, all of which are unlike, in the order in which they are first named.
func isNumbered[V comparable](numbers []uint16, blocks []V) bool {
	next := 0
	for _, no := range numbers {
		if int(no) > next {
			return false
		}
		if int(no) == next {
			next++
		}
	}
	unlike, _ := trial.Numbered(blocks)
	return next == len(blocks)/64 && len(unlike) == len(blocks)
}

// isWithin is whether all of the values lie from least to most.
func isWithin[V api.Class | int32](p api.Parts[V], least, most V) bool {
	return slices.Min(p.Low) >= least && slices.Max(p.Low) <= most
}

// mayBe is whether p may be, as the chapter says.
func mayBe(p api.Packed) bool {
	return isFunction(p.Class) && isFunction(p.Bracket) && isFunction(p.Twin) && isFunction(p.Mirror) &&
		isWithin(p.Class, api.L, api.PDI) && isWithin(p.Bracket, -count, count) && isWithin(p.Twin, 0, count) && isWithin(p.Mirror, 0, count)
}

// listsOf is the twelve sections' numbers; a number below 0 is laid with the bits that it has.
func listsOf(p api.Packed) []any {
	return []any{
		p.Class.Top, p.Class.Mid, p.Class.Low, p.Bracket.Top, p.Bracket.Mid, p.Bracket.Low,
		p.Twin.Top, p.Twin.Mid, p.Twin.Low, p.Mirror.Top, p.Mirror.Mid, p.Mirror.Low,
	}
}

// widths is how many bytes a number of each section has.
func widths() []int { return []int{2, 2, 1, 2, 2, 4, 2, 2, 4, 2, 2, 4} }

// bytesOf is the numbers' bytes, the lowest first.
func bytesOf(numbers ...any) string {
	var out []byte
	for _, list := range numbers {
		var err error
		if out, err = binary.Append(out, binary.LittleEndian, list); err != nil {
			panic(err)
		}
	}
	return string(out)
}

// countsOf is how many numbers each section has.
func countsOf(p api.Packed) []uint32 {
	var counts []uint32
	for i, list := range listsOf(p) {
		counts = append(counts, uint32(len(bytesOf(list))/widths()[i]))
	}
	return counts
}

// bodyOf is the image of p, that is not sealed yet.
func bodyOf(p api.Packed) string {
	return begin + bytesOf(countsOf(p)) + bytesOf(listsOf(p)...)
}

func sealed(body string) string {
	return body + bytesOf(crc32.ChecksumIEEE([]byte(body)))
}

// imaged is the image of p, be p such that it may be or not.
func imaged(p api.Packed) string {
	return sealed(bodyOf(p))
}

// loaded is what Load must answer of any bytes, and where the sections lie.
func loaded(s string) (api.Packed, []api.Section, api.Errno) {
	if len(s) < 4 {
		return api.Packed{}, nil, api.ErrShort
	}
	body := s[:len(s)-4]
	if sealed(body) != s {
		return api.Packed{}, nil, api.ErrSum
	}
	if len(body) < 56 || body[:8] != begin {
		return api.Packed{}, nil, api.ErrHead
	}
	var places []api.Section
	need := int64(56)
	for i, width := range widths() {
		size := int64(binary.LittleEndian.Uint32([]byte(body[8+4*i:]))) * int64(width)
		places = append(places, api.Section{Kind: uint8(i + 1), From: int(need), Size: int(size)})
		need += size
	}
	if need != int64(len(body)) {
		return api.Packed{}, nil, api.ErrSection
	}
	part := func(kind int) []byte { return []byte(body[places[kind-1].From:][:places[kind-1].Size]) }
	p := api.Packed{
		Class:   api.Parts[api.Class]{Top: shorts(part(1)), Mid: shorts(part(2)), Low: classes(part(3))},
		Bracket: api.Parts[int32]{Top: shorts(part(4)), Mid: shorts(part(5)), Low: longs(part(6))},
		Twin:    api.Parts[int32]{Top: shorts(part(7)), Mid: shorts(part(8)), Low: longs(part(9))},
		Mirror:  api.Parts[int32]{Top: shorts(part(10)), Mid: shorts(part(11)), Low: longs(part(12))},
	}
	if !mayBe(p) {
		return api.Packed{}, nil, api.ErrTable
	}
	return p, places, api.OK
}

func shorts(b []byte) []uint16 {
	out := make([]uint16, len(b)/2)
	for i := range out {
		out[i] = binary.LittleEndian.Uint16(b[2*i:])
	}
	return out
}

func longs(b []byte) []int32 {
	out := make([]int32, len(b)/4)
	for i := range out {
		out[i] = int32(binary.LittleEndian.Uint32(b[4*i:]))
	}
	return out
}

func classes(b []byte) []api.Class {
	out := make([]api.Class, len(b))
	for i := range out {
		out[i] = api.Class(b[i])
	}
	return out
}

// isLoaded holds what Load and Sections answer of s against the words, and Save of what Load takes against s; it tells which error there is.
func isLoaded(t *testing.T, what, s string) api.Errno {
	t.Helper()
	want, places, why := loaded(s)
	p, e := image.Load(s)
	if e != why || !trial.SamePacked(p, want) {
		t.Fatalf("%s: Load answers %v, not %v, or other tables", what, e, why)
	}
	l, e := image.Sections(s)
	if e != why || !slices.Equal(l, places) {
		t.Fatalf("%s: Sections are %v, %v, not %v, %v", what, l, e, places, why)
	}
	if why == api.OK {
		isSaved(t, what, p, s)
	}
	return why
}

// isSaved holds Check and Save of tables that may be against their image.
func isSaved(t *testing.T, what string, p api.Packed, s string) {
	t.Helper()
	if e := image.Check(p); e != api.OK {
		t.Fatalf("%s: Check answers %v", what, e)
	}
	if got, e := image.Save(p); got != s || e != api.OK {
		t.Fatalf("%s: Save answers %d bytes, %v, or other ones than the %d", what, len(got), e, len(s))
	}
}

// isChecked holds all that is told of tables, be they such that may be or not, and tells whether they may.
func isChecked(t *testing.T, what string, p api.Packed) bool {
	t.Helper()
	s := imaged(p)
	if mayBe(p) {
		isSaved(t, what, p, s)
		return isLoaded(t, what, s) == api.OK
	}
	if e := image.Check(p); e != api.ErrTable {
		t.Fatalf("%s: Check answers %v", what, e)
	}
	if got, e := image.Save(p); got != "" || e != api.ErrTable {
		t.Fatalf("%s: Save answers %d bytes, %v", what, len(got), e)
	}
	if e := isLoaded(t, what, s); e != api.ErrTable {
		t.Fatalf("%s: Load answers %v", what, e)
	}
	return false
}

// compiled is the base of files that are a database.
func compiled(t *testing.T, f api.Files) *base.Base {
	t.Helper()
	b, err := base.Compile(f)
	if b == nil || err != nil {
		t.Fatal(b, err)
	}
	return b
}

// some is tables with two or three middle blocks each, and as many low ones; whether they go together is nobody's matter here.
func some() api.Packed { return trial.CopyPacked(madeSome()) }

// plain is the tables of one value each.
func plain() api.Packed { return trial.CopyPacked(madePlain()) }

var madeSome = sync.OnceValue(func() api.Packed {
	class := slices.Repeat([]api.Class{api.L}, count)
	bracket, twin, mirror := make([]int32, count), make([]int32, count), make([]int32, count)
	for r := range 0x1000 {
		class[r+0x1000], class[r+0x10F000] = api.R, api.ON
	}
	class[0x10FFFF] = api.PDI
	bracket[0], bracket[0x10FFFF], bracket[0x2000], bracket[0x2001] = count, -count, 1, -1
	twin[0x40], twin[0x10FFFE] = count, 1
	mirror[0xFFFF], mirror[0x10000] = count, 1
	return api.Packed{Class: trial.Parts(class), Bracket: trial.Parts(bracket), Twin: trial.Parts(twin), Mirror: trial.Parts(mirror)}
})

var madePlain = sync.OnceValue(func() api.Packed {
	none := func() api.Parts[int32] { return trial.Parts(make([]int32, count)) }
	return api.Packed{Class: trial.Parts(slices.Repeat([]api.Class{api.L}, count)), Bracket: none(), Twin: none(), Mirror: none()}
})

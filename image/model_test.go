package image_test

import (
	"encoding/binary"
	"fmt"
	"hash/crc32"
	"slices"
	"strings"
	"sync"
	"testing"

	"furrow/api"
	"furrow/base"
	"furrow/image"
)

const (
	count = api.MaxRune + 1 // of numbers, and the greatest value that tells of one
	begin = "FURROW\x01\x00"
)

// The words of the chapter, written down by Go's own means; nothing of the layers below is called but what tells what a base is like.

// partsOf is the parts of the function that gives each number its value, by the words of chapter 11.
func partsOf[V comparable](values []V) api.Parts[V] {
	var p api.Parts[V]
	var lows []uint16
	p.Low, lows = numbered(values)
	p.Mid, p.Top = numbered(lows)
	return p
}

// numbered is the unlike blocks of 64, in the order in which they are first met, and the number of each that is met.
func numbered[V comparable](list []V) (blocks []V, numbers []uint16) {
	met := map[[64]V]uint16{}
	for block := range slices.Chunk(list, 64) {
		no, is := met[[64]V(block)]
		if !is {
			no = uint16(len(met))
			met[[64]V(block)] = no
			blocks = append(blocks, block...)
		}
		numbers = append(numbers, no)
	}
	return blocks, numbers
}

// at is what the parts lead to.
func at[V any](p api.Parts[V], r int) V {
	return p.Low[int(p.Mid[int(p.Top[r/4096])*64+r/64%64])*64+r%64]
}

// isFunction is whether p is the parts of some function.
func isFunction[V comparable](p api.Parts[V]) bool {
	if len(p.Top) != 272 || len(p.Mid)%64 != 0 || len(p.Low)%64 != 0 {
		return false
	}
	return isNumbered(p.Top, p.Mid) && isNumbered(p.Mid, p.Low)
}

// isNumbered is whether numbers name the blocks, all of which are unlike, in the order in which they are first named.
func isNumbered[V comparable](numbers []uint16, blocks []V) bool {
	next := 0
	for _, no := range numbers {
		if int(no) > next {
			return false
		}
		if int(no) == next {
			next++
		}
	}
	unlike, _ := numbered(blocks)
	return next == len(blocks)/64 && len(unlike) == len(blocks)
}

// isWithin is whether all of the values lie from least to most.
func isWithin[V api.Class | int32](p api.Parts[V], least, most V) bool {
	return slices.Min(p.Low) >= least && slices.Max(p.Low) <= most
}

// mayBe is whether p may be, as the chapter says.
func mayBe(p api.Packed) bool {
	return isFunction(p.Class) && isFunction(p.Bracket) && isFunction(p.Twin) && isFunction(p.Mirror) &&
		isWithin(p.Class, api.L, api.PDI) && isWithin(p.Bracket, -count, count) && isWithin(p.Twin, 0, count) && isWithin(p.Mirror, 0, count)
}

// listsOf is the twelve sections' numbers; a number below 0 is laid with the bits that it has.
func listsOf(p api.Packed) []any {
	return []any{
		p.Class.Top, p.Class.Mid, p.Class.Low, p.Bracket.Top, p.Bracket.Mid, p.Bracket.Low,
		p.Twin.Top, p.Twin.Mid, p.Twin.Low, p.Mirror.Top, p.Mirror.Mid, p.Mirror.Low,
	}
}

// widths is how many bytes a number of each section has.
func widths() []int { return []int{2, 2, 1, 2, 2, 4, 2, 2, 4, 2, 2, 4} }

// bytesOf is the numbers' bytes, the lowest first.
func bytesOf(numbers ...any) string {
	var out []byte
	for _, list := range numbers {
		var err error
		if out, err = binary.Append(out, binary.LittleEndian, list); err != nil {
			panic(err)
		}
	}
	return string(out)
}

// countsOf is how many numbers each section has.
func countsOf(p api.Packed) []uint32 {
	var counts []uint32
	for i, list := range listsOf(p) {
		counts = append(counts, uint32(len(bytesOf(list))/widths()[i]))
	}
	return counts
}

// bodyOf is the image of p, that is not sealed yet.
func bodyOf(p api.Packed) string {
	return begin + bytesOf(countsOf(p)) + bytesOf(listsOf(p)...)
}

func sealed(body string) string {
	return body + bytesOf(crc32.ChecksumIEEE([]byte(body)))
}

// imaged is the image of p, be p such that it may be or not.
func imaged(p api.Packed) string {
	return sealed(bodyOf(p))
}

// loaded is what Load must answer of any bytes, and where the sections lie.
func loaded(s string) (api.Packed, []api.Section, api.Errno) {
	if len(s) < 4 {
		return api.Packed{}, nil, api.ErrShort
	}
	body := s[:len(s)-4]
	if sealed(body) != s {
		return api.Packed{}, nil, api.ErrSum
	}
	if len(body) < 56 || body[:8] != begin {
		return api.Packed{}, nil, api.ErrHead
	}
	var places []api.Section
	need := int64(56)
	for i, width := range widths() {
		size := int64(binary.LittleEndian.Uint32([]byte(body[8+4*i:]))) * int64(width)
		places = append(places, api.Section{Kind: uint8(i + 1), From: int(need), Size: int(size)})
		need += size
	}
	if need != int64(len(body)) {
		return api.Packed{}, nil, api.ErrSection
	}
	part := func(kind int) []byte { return []byte(body[places[kind-1].From:][:places[kind-1].Size]) }
	p := api.Packed{
		Class:   api.Parts[api.Class]{Top: shorts(part(1)), Mid: shorts(part(2)), Low: classes(part(3))},
		Bracket: api.Parts[int32]{Top: shorts(part(4)), Mid: shorts(part(5)), Low: longs(part(6))},
		Twin:    api.Parts[int32]{Top: shorts(part(7)), Mid: shorts(part(8)), Low: longs(part(9))},
		Mirror:  api.Parts[int32]{Top: shorts(part(10)), Mid: shorts(part(11)), Low: longs(part(12))},
	}
	if !mayBe(p) {
		return api.Packed{}, nil, api.ErrTable
	}
	return p, places, api.OK
}

func shorts(b []byte) []uint16 {
	out := make([]uint16, len(b)/2)
	for i := range out {
		out[i] = binary.LittleEndian.Uint16(b[2*i:])
	}
	return out
}

func longs(b []byte) []int32 {
	out := make([]int32, len(b)/4)
	for i := range out {
		out[i] = int32(binary.LittleEndian.Uint32(b[4*i:]))
	}
	return out
}

func classes(b []byte) []api.Class {
	out := make([]api.Class, len(b))
	for i := range out {
		out[i] = api.Class(b[i])
	}
	return out
}

func isSameParts[V comparable](a, b api.Parts[V]) bool {
	return slices.Equal(a.Top, b.Top) && slices.Equal(a.Mid, b.Mid) && slices.Equal(a.Low, b.Low)
}

// isSame is whether the tables are the same, number by number of their sections.
func isSame(a, b api.Packed) bool {
	return isSameParts(a.Class, b.Class) && isSameParts(a.Bracket, b.Bracket) && isSameParts(a.Twin, b.Twin) && isSameParts(a.Mirror, b.Mirror)
}

// isLoaded holds what Load and Sections answer of s against the words, and Save of what Load takes against s; it tells which error there is.
func isLoaded(t *testing.T, what, s string) api.Errno {
	t.Helper()
	want, places, why := loaded(s)
	p, e := image.Load(s)
	if e != why || !isSame(p, want) {
		t.Fatalf("%s: Load answers %v, not %v, or other tables", what, e, why)
	}
	l, e := image.Sections(s)
	if e != why || !slices.Equal(l, places) {
		t.Fatalf("%s: Sections are %v, %v, not %v, %v", what, l, e, places, why)
	}
	if why == api.OK {
		isSaved(t, what, p, s)
	}
	return why
}

// isSaved holds Check and Save of tables that may be against their image.
func isSaved(t *testing.T, what string, p api.Packed, s string) {
	t.Helper()
	if e := image.Check(p); e != api.OK {
		t.Fatalf("%s: Check answers %v", what, e)
	}
	if got, e := image.Save(p); got != s || e != api.OK {
		t.Fatalf("%s: Save answers %d bytes, %v, or other ones than the %d", what, len(got), e, len(s))
	}
}

// isChecked holds all that is told of tables, be they such that may be or not, and tells whether they may.
func isChecked(t *testing.T, what string, p api.Packed) bool {
	t.Helper()
	s := imaged(p)
	if mayBe(p) {
		isSaved(t, what, p, s)
		return isLoaded(t, what, s) == api.OK
	}
	if e := image.Check(p); e != api.ErrTable {
		t.Fatalf("%s: Check answers %v", what, e)
	}
	if got, e := image.Save(p); got != "" || e != api.ErrTable {
		t.Fatalf("%s: Save answers %d bytes, %v", what, len(got), e)
	}
	if e := isLoaded(t, what, s); e != api.ErrTable {
		t.Fatalf("%s: Load answers %v", what, e)
	}
	return false
}

// askedOf is the packed tables of what props tell, each number from 0 to MaxRune asked.
func askedOf(props api.Props) api.Packed {
	class, bracket, twin, mirror := make([]api.Class, count), make([]int32, count), make([]int32, count), make([]int32, count)
	for r := range rune(count) {
		class[r] = props.Class(r)
		switch other, side := props.Bracket(r); side {
		case api.Opens:
			bracket[r] = other + 1
		case api.Closes:
			bracket[r] = -other - 1
		}
		if as := props.Twin(r); as != r {
			twin[r] = as + 1
		}
		if to, is := props.Mirror(r); is {
			mirror[r] = to + 1
		}
	}
	return api.Packed{Class: partsOf(class), Bracket: partsOf(bracket), Twin: partsOf(twin), Mirror: partsOf(mirror)}
}

// compiled is the base of files that are a database.
func compiled(t *testing.T, f api.Files) *base.Base {
	t.Helper()
	b, err := base.Compile(f)
	if b == nil || err != nil {
		t.Fatal(b, err)
	}
	return b
}

// copied is p in memory of its own.
func copied(p api.Packed) api.Packed {
	return api.Packed{Class: copiedParts(p.Class), Bracket: copiedParts(p.Bracket), Twin: copiedParts(p.Twin), Mirror: copiedParts(p.Mirror)}
}

func copiedParts[V any](p api.Parts[V]) api.Parts[V] {
	return api.Parts[V]{Top: slices.Clone(p.Top), Mid: slices.Clone(p.Mid), Low: slices.Clone(p.Low)}
}

// text is the lines, an end behind each.
func text(lines ...string) string {
	return strings.Join(lines, "\n") + "\n"
}

// row is a character's line: its number, class, twin ("": none) and whether it is mirrored.
func row(point rune, class, twin, flag string) string {
	return fmt.Sprintf("%04X;N;Ps;0;%s;%s;;;;%s;;;;;", point, class, twin, flag)
}

// databases are files of all sorts that are one.
func databases() map[string]api.Files {
	return map[string]api.Files{
		"none": {},
		"chapter 10's": {
			Rows:     text(row(0x28, "ON", "", "Y"), row(0x29, "ON", "", "Y"), row(0x41, "L", "", "N")),
			Classes:  text("0028..0029; ON"),
			Brackets: text("0028; 0029; o", "0029; 0028; c"),
			Mirrors:  text("0028; 0029", "0029; 0028"),
		},
		"twins": {
			Rows:     text(row(0x28, "ON", "", "Y"), row(0x2329, "ON", "3008", "Y"), row(0x232A, "ON", "3009", "Y")),
			Classes:  text("0028..0029; ON", "2329..232A; ON", "3008..3009; ON"),
			Brackets: text("0028; 0029; o", "0029; 0028; c", "2329; 232A; o", "232A; 2329; c", "3008; 3009; o", "3009; 3008; c"),
		},
		"the ends": {
			Rows:     text(row(0, "ON", "", "Y"), row(0x10FFFF, "ON", "", "Y")),
			Classes:  text("# @missing: 0000..10FFFF; ON"),
			Brackets: text("0000; 10FFFF; c", "10FFFF; 0000; o", "0001; 10FFFE; o", "10FFFE; 0001; c"),
			Mirrors:  text("0000; 10FFFF", "10FFFF; 0000"),
		},
		"the other ends": {
			Rows:     text(row(5, "ON", "0001", "N"), row(0x10FFFA, "ON", "10FFFF", "N")),
			Classes:  text("# @missing: 0000..10FFFF; ON"),
			Brackets: text("0001; 10FFFF; o", "10FFFF; 0001; c", "0005; 10FFFA; o", "10FFFA; 0005; c"),
		},
		"mirrors": {
			Rows:    text(row(0x3C, "ON", "", "Y"), row(0x3E, "ON", "", "Y"), row(0xFFFD, "L", "0041", "Y"), row(0x10FFFE, "R", "", "Y")),
			Classes: text("003C; ON", "003E; ON", "10FFFE; R"),
			Mirrors: text("003C; 003E", "003E; 003C # [BEST FIT]", "FFFD; 10FFFE", "10FFFE; FFFD"),
		},
		"all classes": {Classes: manyClasses()},
		"surrogates":  {Classes: text("# @missing: 0590..08FF; R", "D800; AL", "D801..DFFE; NSM", "DFFF; BN", "10FFFF; B")},
		"many":        many(),
	}
}

// manyClasses is a line for each class, and for stretches of many lengths.
func manyClasses() string {
	names := strings.Fields("L R AL EN ES ET AN CS NSM BN B S WS ON LRE LRO RLE RLO PDF LRI RLI FSI PDI")
	var lines []string
	at := 0
	for i := range 500 {
		to := at + i*i%701
		lines = append(lines, fmt.Sprintf("%04X..%04X; %s", at, to, names[i%23]))
		at = to + 1 + i%3
	}
	return text(lines...)
}

// many is files of pairs of brackets all over the numbers, each of which is a mirror, too, and has the first one as its twin.
func many() api.Files {
	var rows, brackets, mirrors []string
	for i := range rune(900) {
		one, other := i*1201+64, i*1201+64+i%100+1
		twin, otherTwin := "0040", "0041"
		if i == 0 {
			twin, otherTwin = "", ""
		}
		rows = append(rows, row(one, "ON", twin, "Y"), row(other, "ON", otherTwin, "Y"))
		brackets = append(brackets, fmt.Sprintf("%04X; %04X; o\n%04X; %04X; c", one, other, other, one))
		mirrors = append(mirrors, fmt.Sprintf("%04X; %04X\n%04X; %04X", one, other, other, one))
	}
	return api.Files{Rows: text(rows...), Classes: text("# @missing: 0000..10FFFF; ON"), Brackets: text(brackets...), Mirrors: text(mirrors...)}
}

// some is tables with two or three middle blocks each, and as many low ones; whether they go together is nobody's matter here.
func some() api.Packed { return copied(madeSome()) }

// plain is the tables of one value each.
func plain() api.Packed { return copied(madePlain()) }

var madeSome = sync.OnceValue(func() api.Packed {
	class := slices.Repeat([]api.Class{api.L}, count)
	bracket, twin, mirror := make([]int32, count), make([]int32, count), make([]int32, count)
	for r := range 0x1000 {
		class[r+0x1000], class[r+0x10F000] = api.R, api.ON
	}
	class[0x10FFFF] = api.PDI
	bracket[0], bracket[0x10FFFF], bracket[0x2000], bracket[0x2001] = count, -count, 1, -1
	twin[0x40], twin[0x10FFFE] = count, 1
	mirror[0xFFFF], mirror[0x10000] = count, 1
	return api.Packed{Class: partsOf(class), Bracket: partsOf(bracket), Twin: partsOf(twin), Mirror: partsOf(mirror)}
})

var madePlain = sync.OnceValue(func() api.Packed {
	none := func() api.Parts[int32] { return partsOf(make([]int32, count)) }
	return api.Packed{Class: partsOf(slices.Repeat([]api.Class{api.L}, count)), Bracket: none(), Twin: none(), Mirror: none()}
})

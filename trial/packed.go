package trial

import (
	"slices"

	"furrow/api"
)

const count = api.MaxRune + 1 // of numbers

// Parts is the parts of the function that gives each number its value, by the words of chapter 11.
func Parts[V comparable](values []V) api.Parts[V] {
	var p api.Parts[V]
	var lows []uint16
	p.Low, lows = Numbered(values)
	p.Mid, p.Top = Numbered(lows)
	return p
}

// Numbered is the unlike blocks of 64, in the order in which they are first met, and the number of each that is met.
func Numbered[V comparable](list []V) (blocks []V, numbers []uint16) {
	met := map[[64]V]uint16{}
	for block := range slices.Chunk(list, 64) {
		no, is := met[[64]V(block)]
		if !is {
			no = uint16(len(met))
			met[[64]V(block)] = no
			blocks = append(blocks, block...)
		}
		numbers = append(numbers, no)
	}
	return blocks, numbers
}

// ValueAt is what the parts lead to.
func ValueAt[V any](p api.Parts[V], r int) V {
	return p.Low[int(p.Mid[int(p.Top[r/4096])*64+r/64%64])*64+r%64]
}

// Asked is the packed tables of what props tell, each number from 0 to MaxRune asked.
func Asked(props api.Props) api.Packed {
	class, bracket, twin, mirror := make([]api.Class, count), make([]int32, count), make([]int32, count), make([]int32, count)
	for r := range rune(count) {
		class[r] = props.Class(r)
		switch other, side := props.Bracket(r); side {
		case api.Opens:
			bracket[r] = other + 1
		case api.Closes:
			bracket[r] = -other - 1
		}
		if as := props.Twin(r); as != r {
			twin[r] = as + 1
		}
		if to, is := props.Mirror(r); is {
			mirror[r] = to + 1
		}
	}
	return api.Packed{Class: Parts(class), Bracket: Parts(bracket), Twin: Parts(twin), Mirror: Parts(mirror)}
}

// SamePacked is whether the tables are the same, number by number of their sections.
func SamePacked(a, b api.Packed) bool {
	return sameParts(a.Class, b.Class) && sameParts(a.Bracket, b.Bracket) && sameParts(a.Twin, b.Twin) && sameParts(a.Mirror, b.Mirror)
}

func sameParts[V comparable](a, b api.Parts[V]) bool {
	return slices.Equal(a.Top, b.Top) && slices.Equal(a.Mid, b.Mid) && slices.Equal(a.Low, b.Low)
}

// CopyPacked is p in memory of its own.
func CopyPacked(p api.Packed) api.Packed {
	return api.Packed{Class: copyParts(p.Class), Bracket: copyParts(p.Bracket), Twin: copyParts(p.Twin), Mirror: copyParts(p.Mirror)}
}

func copyParts[V any](p api.Parts[V]) api.Parts[V] {
	return api.Parts[V]{Top: slices.Clone(p.Top), Mid: slices.Clone(p.Mid), Low: slices.Clone(p.Low)}
}

// Spoil writes over all numbers of p, and the room behind them.
func Spoil(p api.Packed) {
	spoilParts(p.Class)
	spoilParts(p.Bracket)
	spoilParts(p.Twin)
	spoilParts(p.Mirror)
}

func spoilParts[V api.Class | int32](p api.Parts[V]) {
	SpoilList(p.Top)
	SpoilList(p.Mid)
	SpoilList(p.Low)
}

// SpoilList writes over the list, and the room behind it.
func SpoilList[V api.Class | int32 | uint16](list []V) {
	all := list[:cap(list)]
	for i := range all {
		all[i] = 99
	}
}

// Roomy is p in memory that goes on behind each of its lists.
func Roomy(p api.Packed) api.Packed {
	return api.Packed{Class: roomyParts(p.Class), Bracket: roomyParts(p.Bracket), Twin: roomyParts(p.Twin), Mirror: roomyParts(p.Mirror)}
}

func roomyParts[V api.Class | int32](p api.Parts[V]) api.Parts[V] {
	return api.Parts[V]{Top: roomyList(p.Top), Mid: roomyList(p.Mid), Low: roomyList(p.Low)}
}

func roomyList[V api.Class | int32 | uint16](list []V) []V {
	out := append(slices.Clone(list), make([]V, 100)...)
	for i := range 100 {
		out[len(list)+i] = V(i)
	}
	return out[:len(list)]
}

// Whole is p with the room behind each of its lists.
func Whole(p api.Packed) api.Packed {
	return api.Packed{Class: wholeParts(p.Class), Bracket: wholeParts(p.Bracket), Twin: wholeParts(p.Twin), Mirror: wholeParts(p.Mirror)}
}

func wholeParts[V any](p api.Parts[V]) api.Parts[V] {
	return api.Parts[V]{Top: p.Top[:cap(p.Top)], Mid: p.Mid[:cap(p.Mid)], Low: p.Low[:cap(p.Low)]}
}

package image

import (
	"slices"

	"furrow/api"
	"furrow/sums"
)

// section is one as it lies in an image.
type section struct {
	count uint32 // of its numbers
	bytes string
}

// sections is those of p, in the order of their numbers.
func sections(p api.Packed) []section {
	return slices.Concat(
		three(p.Class, p.Class.Low),
		three(p.Bracket, recast[uint32](p.Bracket.Low)),
		three(p.Twin, recast[uint32](p.Twin.Low)),
		three(p.Mirror, recast[uint32](p.Mirror.Low)),
	)
}

// three is the sections of one table, whose Low is laid as those numbers.
func three[V any, N api.Num](p api.Parts[V], low []N) []section {
	return []section{laid(p.Top), laid(p.Mid), laid(low)}
}

func laid[N api.Num](numbers []N) section {
	return section{uint32(len(numbers)), string(sums.Put(nil, numbers...))}
}

// recast is the numbers of the other sort that have the same bits.
func recast[To, From int32 | uint32](numbers []From) []To {
	out := make([]To, len(numbers))
	for i, n := range numbers {
		out[i] = To(n)
	}
	return out
}

package image

import (
	"strings"

	"furrow/api"
	"furrow/sums"
)

// reader takes an image apart, from its beginning on. Where it is none, the reader gives up, by a panic with a refusal, so that no step need be asked how it went.
type reader struct {
	image  string
	body   string   // what the image seals
	at     int      // how many bytes of the body are taken
	counts []uint32 // how many numbers each section has that is not taken yet
	packed api.Packed
}

// refusal is what a reader gives up with.
type refusal struct{ why api.Errno }

func (r refusal) Error() string { return "no image: " + r.why.Error() }

// insist gives up for that reason, unless all is right.
func insist(right bool, why api.Errno) {
	if !right {
		panic(refusal{why})
	}
}

// given is why a reader gave up. No other panic is known of; as no call may panic, one would be answered as tables that are none.
func given(panicked any) api.Errno {
	if gave, is := panicked.(refusal); is {
		return gave.why
	}
	return api.ErrTable
}

// steps are what is to be done, in the order in which errors are told.
func (r *reader) steps() []func() {
	return []func(){r.open, r.begin, r.takeClass, r.takeBracket, r.takeTwin, r.takeMirror, r.end, r.check}
}

func (r *reader) open() {
	body, why := sums.Open(r.image)
	insist(why == api.OK, why)
	r.body = body
}

// begin takes what stands ahead of the sections.
func (r *reader) begin() {
	insist(strings.HasPrefix(r.body, head) && len(r.body) >= front, api.ErrHead)
	r.counts, _ = sums.Take[uint32](r.body, len(head), kinds)
	r.at = front
}

func (r *reader) takeClass()   { r.packed.Class = table(r, r.classes) }
func (r *reader) takeBracket() { r.packed.Bracket = table(r, r.signed) }
func (r *reader) takeTwin()    { r.packed.Twin = table(r, r.signed) }
func (r *reader) takeMirror()  { r.packed.Mirror = table(r, r.signed) }

// end asks that there is nothing behind the last section.
func (r *reader) end() {
	insist(r.at == len(r.body), api.ErrSection)
}

func (r *reader) check() {
	why := Check(r.packed)
	insist(why == api.OK, why)
}

func (r *reader) blocks() []uint16     { return next[uint16](r) }
func (r *reader) classes() []api.Class { return next[api.Class](r) }
func (r *reader) signed() []int32      { return recast[int32](next[uint32](r)) }

// table takes the next three sections, the last of them by low.
func table[V any](r *reader, low func() []V) api.Parts[V] {
	return api.Parts[V]{Top: r.blocks(), Mid: r.blocks(), Low: low()}
}

// next takes the next section. As each must lie in what is left of the body, how many bytes all of them need is not to be summed, which could wrap.
func next[N api.Num](r *reader) []N {
	count := int(r.counts[0])
	numbers, why := sums.Take[N](r.body, r.at, count)
	insist(why == api.OK, api.ErrSection)
	r.at += sums.Size[N](count)
	r.counts = r.counts[1:]
	return numbers
}

package image

import (
	"furrow/api"
	"furrow/base"
	"furrow/trie"
)

// Pack is the tables of what b tells of each number. A base that Compile made tells a class of each, any other one of none.
func Pack(b *base.Base) (api.Packed, api.Errno) {
	classes := classSpans(b)
	if len(classes) == 0 {
		return api.Packed{}, api.ErrNil
	}
	var brackets, twins, mirrors []api.Span[int32]
	for r, p := range b.Points() { // no other number has a twin or a mirror, nor is a bracket
		brackets = marked(brackets, r, bracketValue(p))
		twins = marked(twins, r, twinValue(r, p))
		mirrors = marked(mirrors, r, mirrorValue(p))
	}
	return api.Packed{Class: parts(classes), Bracket: parts(brackets), Twin: parts(twins), Mirror: parts(mirrors)}, api.OK
}

// classSpans is b's classes as a trie takes them.
func classSpans(b *base.Base) []api.Span[api.Class] {
	var spans []api.Span[api.Class]
	for r, class := range b.Classes() {
		spans = append(spans, api.Span[api.Class]{From: r.Lo, To: r.Hi, Val: class})
	}
	return spans
}

// marked is the spans with r's value behind them. What has none need not be told.
func marked(spans []api.Span[int32], r rune, value int32) []api.Span[int32] {
	if value == 0 {
		return spans
	}
	return append(spans, api.Span[int32]{From: r, To: r, Val: value})
}

func bracketValue(p api.Point) int32 {
	switch p.Side {
	case api.Opens:
		return p.Other + 1
	case api.Closes:
		return -(p.Other + 1)
	}
	return 0
}

func twinValue(r rune, p api.Point) int32 {
	if p.Twin == r {
		return 0
	}
	return p.Twin + 1
}

func mirrorValue(p api.Point) int32 {
	if !p.Turns {
		return 0
	}
	return p.Mirror + 1
}

// parts is the parts of the trie that has the spans' values, and 0 elsewhere. What a base tells rises, so that no span is refused.
func parts[V comparable](spans []api.Span[V]) api.Parts[V] {
	var rest V
	t, _, _ := trie.Build(rest, spans...)
	return t.Parts()
}

package tables

import (
	"slices"

	"furrow/api"
	"furrow/points"
	"furrow/trie"
)

// Hand is the tables that are laid so: each number has the class of the last entry that has it (rest, if none has), and of rows with one At the last one counts. Or none, the number of the first row that may not be, or at which the tables do not go together, and why.
func Hand(rest api.Class, classes []api.Entry, brackets []api.Bracket, twins, mirrors []api.Twin) (*Tables, rune, api.Errno) {
	if !isClass(rest) {
		return nil, 0, api.ErrArg
	}
	classSpans, wrongClasses := spans(classes, entrySpan)
	bracketSpans, wrongBrackets := spans(brackets, bracketSpan)
	twinSpans, wrongTwins := spans(twins, otherSpan)
	mirrorSpans, wrongMirrors := spans(mirrors, otherSpan)
	if wrong := slices.Concat(wrongClasses, wrongBrackets, wrongTwins, wrongMirrors); len(wrong) > 0 {
		return nil, wrong[0], api.ErrArg
	}
	t := &Tables{class: laid(rest, classSpans), bracket: laid(0, bracketSpans), twin: laid(0, twinSpans), mirror: laid(0, mirrorSpans)}
	return t.checked()
}

// spans is the rows as spans of values, and where those begin that may not be.
func spans[T any, V comparable](rows []T, of func(row T) (api.Span[V], bool)) (list []api.Span[V], wrong []rune) {
	for _, row := range rows {
		s, may := of(row)
		list = append(list, s)
		if !may {
			wrong = append(wrong, s.From)
		}
	}
	return list, wrong
}

// entrySpan is the span of e, and whether e may be.
func entrySpan(e api.Entry) (api.Span[api.Class], bool) {
	may := points.May(api.Range{Lo: e.From, Hi: e.To}) && isClass(e.Class)
	return api.Span[api.Class]{From: e.From, To: e.To, Val: e.Class}, may
}

// bracketSpan is the span of b, and whether b may be.
func bracketSpan(b api.Bracket) (api.Span[int32], bool) {
	may := areTwo(b.At, b.Other) && (b.Side == api.Opens || b.Side == api.Closes)
	return one(b.At, bracketValue(b.Other, b.Side)), may
}

// otherSpan is the span of a twin or a mirror, and whether it may be.
func otherSpan(t api.Twin) (api.Span[int32], bool) {
	return one(t.At, value(t.As)), areTwo(t.At, t.As)
}

// areTwo is whether these are two numbers, and unlike.
func areTwo(at, other rune) bool {
	return isNumber(at) && isNumber(other) && at != other
}

func one(r rune, v int32) api.Span[int32] {
	return api.Span[int32]{From: r, To: r, Val: v}
}

// laid is the trie that gives each number the Val of the last of the spans that has it, rest to those that none has. It lays them from the last one on, each where nothing lies yet, so that many spans over one another take no longer than as many beside one another.
func laid[V comparable](rest V, spans []api.Span[V]) *trie.Trie[V] {
	edges := edgesOf(spans)
	free := make([]int, len(edges)) // a stretch lies from each edge to the next: itself, if it is free; else one behind it that may be
	for i := range free {
		free[i] = i
	}
	var pieces []api.Span[V]
	for _, s := range slices.Backward(spans) {
		from, _ := slices.BinarySearch(edges, s.From)
		for i := nextFree(free, from); edges[i] <= s.To; i = nextFree(free, i) {
			pieces = append(pieces, api.Span[V]{From: edges[i], To: edges[i+1] - 1, Val: s.Val})
			free[i] = i + 1
		}
	}
	t, _, _ := trie.Build(rest, pieces...) // the pieces may be, and do not meet
	return t
}

// edgesOf is where the spans begin, and what stands right behind them, rising.
func edgesOf[V any](spans []api.Span[V]) []rune {
	var edges []rune
	for _, s := range spans {
		edges = append(edges, s.From, s.To+1)
	}
	slices.Sort(edges)
	return slices.Compact(edges)
}

// nextFree is the first stretch from i on that is free. The way to it is made shorter for those who come behind.
func nextFree(free []int, i int) int {
	for free[i] != i {
		free[i] = free[free[i]]
		i = free[i]
	}
	return i
}

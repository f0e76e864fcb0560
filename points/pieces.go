package points

import (
	"slices"
	"sort"

	"furrow/api"
)

// The pieces of a map are ranges with a value each, rising, of which no two meet. Those next to one another stay apart even if their values are alike, and are joined only where stretches are told: alike values may be unlike all the same, as 0 and minus 0 are, and each code point tells the one that it was given.

// reach is from which of the pieces up to which one they meet r.
func reach[V any](pieces []api.Span[V], r api.Range) (from, upTo int) {
	from = sort.Search(len(pieces), func(i int) bool { return pieces[i].To >= r.Lo })
	upTo = sort.Search(len(pieces), func(i int) bool { return pieces[i].From > r.Hi })
	return from, upTo
}

// meeting is those of the pieces that meet r.
func meeting[V any](pieces []api.Span[V], r api.Range) []api.Span[V] {
	from, upTo := reach(pieces, r)
	return pieces[from:upTo]
}

// within is what of the pieces lies in r, as a list of its own.
func within[V any](pieces []api.Span[V], r api.Range) []api.Span[V] {
	parts := slices.Clone(meeting(pieces, r))
	for i := range parts {
		parts[i].From = max(parts[i].From, r.Lo)
		parts[i].To = min(parts[i].To, r.Hi)
	}
	return parts
}

// replaced is the pieces with what is new in r, and nothing else in it; what they were is written over.
func replaced[V any](pieces []api.Span[V], r api.Range, with ...api.Span[V]) []api.Span[V] {
	from, upTo := reach(pieces, r)
	var whole []api.Span[V]
	if from < upTo && pieces[from].From < r.Lo {
		ahead := pieces[from]
		ahead.To = r.Lo - 1
		whole = append(whole, ahead)
	}
	whole = append(whole, with...)
	if from < upTo && pieces[upTo-1].To > r.Hi {
		behind := pieces[upTo-1]
		behind.From = r.Hi + 1
		whole = append(whole, behind)
	}
	return slices.Replace(pieces, from, upTo, whole...)
}

// size is how many code points the pieces have.
func size[V any](pieces []api.Span[V]) int {
	n := 0
	for _, p := range pieces {
		n += int(p.To-p.From) + 1
	}
	return n
}

package brackets

import (
	"iter"

	"furrow/api"
)

// numbered is a row with the number by which it is called if it is refused: its place, or its line's number.
type numbered struct {
	no  int
	row api.Bracket
}

// refusal is the number of what is refused, and why it is.
type refusal struct {
	no  int
	why api.Errno
}

func (r *refusal) Error() string { return r.why.Error() }

// gather is the book of the rows that are told; or none, and the refusal of the first one that is told with an error or that may not stand behind those ahead of it, or else of the first one that stands alone.
func gather(told iter.Seq2[numbered, api.Errno]) (*Book, error) {
	b := &Book{rows: map[rune]api.Bracket{}}
	var all []numbered
	for n, why := range told {
		if why == api.OK {
			why = b.add(n.row)
		}
		if why != api.OK {
			return nil, &refusal{no: n.no, why: why}
		}
		all = append(all, n)
	}
	for _, n := range all { // a row's other one may stand behind it, so this is asked when all are there
		if isLone(n.row, b.Bracket) {
			return nil, &refusal{no: n.no, why: api.ErrLone}
		}
	}
	return b, nil
}

// add puts row into b, whatever its other one says.
func (b *Book) add(row api.Bracket) api.Errno {
	if !isRow(row) {
		return api.ErrBracket
	}
	if _, is := b.rows[row.At]; is {
		return api.ErrTwice
	}
	b.rows[row.At] = row
	return api.OK
}

// isRow is whether row may be, by itself.
func isRow(row api.Bracket) bool {
	return isPoint(row.At) && isPoint(row.Other) && row.At != row.Other && opposite(row.Side) != api.None
}

// opposite is the side that the other one of a pair has; None, if side is none that a bracket has.
func opposite(side api.Side) api.Side {
	switch side {
	case api.Opens:
		return api.Closes
	case api.Closes:
		return api.Opens
	}
	return api.None
}

// isLone is whether row's other one, as the look-up tells it, is not there or says otherwise.
func isLone(row api.Bracket, bracket func(rune) (rune, api.Side)) bool {
	back, side := bracket(row.Other)
	return back != row.At || side != opposite(row.Side)
}

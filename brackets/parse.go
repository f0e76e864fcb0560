package brackets

import (
	"errors"
	"iter"

	"furrow/api"
	"furrow/lines"
	"furrow/points"
	"furrow/words"
)

const fieldCount = 3 // of a row's line

// Parse is the book of text; or none, and the Fault of the line that is refused.
func Parse(file, text string) (*Book, error) {
	b, err := gather(lined(text))
	var r *refusal
	if errors.As(err, &r) {
		return nil, &api.Fault{File: file, Line: r.no, Code: r.why}
	}
	return b, nil
}

// lined tells the rows of text, each with its line's number; and of a line that is none its number and why it is wrong. Lines that say nothing are passed over.
func lined(text string) iter.Seq2[numbered, api.Errno] {
	return func(yield func(numbered, api.Errno) bool) {
		for no, line := range lines.Each(text) {
			l, why := lines.Scan(no, line)
			if why == api.OK && (l.Kind == api.LineBlank || l.Kind == api.LineMissing) {
				continue
			}
			n := numbered{no: no}
			if why == api.OK {
				n.row, why = scan(l)
			}
			if !yield(n, why) {
				return
			}
		}
	}
}

// scan is the row that l's fields tell, be it one that may be or not.
func scan(l api.Line) (api.Bracket, api.Errno) {
	if l.Kind != api.LineData || len(l.Fields) != fieldCount {
		return api.Bracket{}, api.ErrBracket
	}
	at, why := points.Hex(l.Fields[0])
	if why != api.OK {
		return api.Bracket{}, why
	}
	other, why := points.Hex(l.Fields[1])
	if why != api.OK {
		return api.Bracket{}, why
	}
	side, why := words.Side(l.Fields[2])
	return api.Bracket{At: at, Other: other, Side: side}, why
}

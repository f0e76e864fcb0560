package lines

import (
	"strings"

	"furrow/api"
)

const (
	orderSign   = "@"
	missingSign = "@missing:"
)

// sign is what a byte of a line means to its fields.
type sign uint8

const (
	blank   sign = iota
	plain        // of a field
	divides      // one field from the next
	ends         // the head
)

// Cut is the fields of line's head, and its note.
func Cut(line string) (fields []string, note string) {
	var at, from, to int
ahead: // of a field: its blanks are left out
	if signAt(line, at) == blank {
		at++
		goto ahead
	}
	from, to = at, at
within: // a field, which is line[from:to] so far: blanks belong to it only if more of it follows
	switch signAt(line, at) {
	case blank:
		at++
		goto within
	case plain:
		at++
		to = at
		goto within
	case divides:
		fields = append(fields, line[from:to])
		at++
		goto ahead
	}
	if len(fields) > 0 || from < to { // a head that is empty has no field, not an empty one
		fields = append(fields, line[from:to])
	}
	if at < len(line) {
		note = trim(line[at+1:])
	}
	return fields, note
}

func signAt(line string, at int) sign {
	if at == len(line) {
		return ends
	}
	switch line[at] {
	case ' ', '\t':
		return blank
	case ';':
		return divides
	case '#':
		return ends
	}
	return plain
}

func trim(s string) string {
	return strings.Trim(s, " \t")
}

// Scan is what line is, with the number no; Check's error of a line that is not right, ErrOrder of an order that is none.
func Scan(no int, line string) (api.Line, api.Errno) {
	if _, why := Check(line); why != api.OK {
		return api.Line{}, why
	}
	if order, found := strings.CutPrefix(trim(line), orderSign); found {
		return scanOrder(no, order)
	}
	kind := api.LineBlank
	fields, note := Cut(line)
	if len(fields) > 0 {
		kind = api.LineData
	} else if missing, found := strings.CutPrefix(note, missingSign); found {
		kind = api.LineMissing
		fields, note = Cut(missing)
	}
	return api.Line{No: no, Kind: kind, Fields: fields, Note: note}, api.OK
}

// scanOrder is the order of a line of which what stands behind the @ is handed in. Its first colon may stand in the note: then what stands ahead of it has a #, and is no name.
func scanOrder(no int, order string) (api.Line, api.Errno) {
	name, behind, found := strings.Cut(order, ":")
	if !found || !isName(name) {
		return api.Line{}, api.ErrOrder
	}
	fields, note := Cut(behind)
	return api.Line{No: no, Kind: api.LineOrder, Name: name, Fields: fields, Note: note}, api.OK
}

func isName(s string) bool {
	for _, r := range s {
		if !isNameSign(r) {
			return false
		}
	}
	return s != ""
}

func isNameSign(r rune) bool {
	switch {
	case r >= 'A' && r <= 'Z', r >= 'a' && r <= 'z', r >= '0' && r <= '9':
		return true
	}
	return r == '_' || r == '-'
}

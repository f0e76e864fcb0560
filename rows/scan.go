package rows

import (
	"strconv"
	"strings"
	"unicode/utf8"

	"furrow/api"
	"furrow/points"
	"furrow/words"
)

const (
	fieldCount = 15  // of a row's line
	mostName   = 256 // characters of a name
	mostComb   = 254
	blank      = " " // between the parts of what a character is made of
	tagOpens   = "<"
	tagCloses  = ">"
	flagYes    = "Y"
	flagNo     = "N"
)

// cell is a field of a row's line, by its number, and what reads it.
type cell struct {
	at   int
	read func(field string) api.Errno
}

// reading is a row of which the fields are read one by one.
type reading struct {
	row api.Row
}

// Scan is the row of the line l, be it a half or not; or the first error of its fields.
func Scan(l api.Line) (api.Row, api.Errno) {
	if l.Kind == api.LineOrder {
		return api.Row{}, api.ErrOrder
	}
	if l.Kind != api.LineData || len(l.Fields) != fieldCount {
		return api.Row{}, api.ErrCells
	}
	r := reading{row: api.Row{Line: l.No}}
	for _, c := range r.cells() {
		if why := c.read(l.Fields[c.at]); why != api.OK {
			return api.Row{}, why
		}
	}
	return r.row, api.OK
}

// cells are the fields that are read, in the order in which they are asked.
func (r *reading) cells() []cell {
	return []cell{
		{0, r.readPoint},
		{1, r.readName},
		{2, r.readCategory},
		{3, r.readCombining},
		{4, r.readClass},
		{5, r.readParts},
		{9, r.readFlag},
	}
}

func (r *reading) readPoint(field string) api.Errno {
	point, why := points.Hex(field)
	r.row.First, r.row.Last = point, point
	return why
}

func (r *reading) readName(field string) api.Errno {
	if size := utf8.RuneCountInString(field); size < 1 || size > mostName {
		return api.ErrName
	}
	r.row.Name = field
	return api.OK
}

func (r *reading) readCategory(field string) api.Errno {
	if len(field) != 2 || field[0] < 'A' || field[0] > 'Z' || field[1] < 'a' || field[1] > 'z' {
		return api.ErrCat
	}
	r.row.Cat = field
	return api.OK
}

func (r *reading) readCombining(field string) api.Errno {
	number, err := strconv.ParseUint(field, 10, 8)
	if err != nil || number > mostComb || strconv.FormatUint(number, 10) != field { // a 0 ahead is not how it is written
		return api.ErrComb
	}
	r.row.Comb = uint8(number)
	return api.OK
}

func (r *reading) readClass(field string) api.Errno {
	class, why := words.Class(field)
	if why != api.OK {
		return why
	}
	if short, _ := words.Short(class); short != field { // other names of it will not do here
		return api.ErrNoClass
	}
	r.row.Class = class
	return api.OK
}

// readParts reads what a character is made of: what is one code point alone is its twin.
func (r *reading) readParts(field string) api.Errno {
	if field == "" {
		return api.OK
	}
	parts := strings.Split(field, blank)
	tagged := isTag(parts[0])
	if tagged {
		parts = parts[1:]
	}
	if len(parts) == 0 {
		return api.ErrMap
	}
	for _, part := range parts {
		point, why := points.Hex(part)
		if why != api.OK {
			return api.ErrMap
		}
		if !tagged && len(parts) == 1 {
			r.row.Twin = point
		}
	}
	return api.OK
}

func isTag(part string) bool {
	behind, opens := strings.CutPrefix(part, tagOpens)
	return opens && strings.HasSuffix(behind, tagCloses)
}

func (r *reading) readFlag(field string) api.Errno {
	if field != flagYes && field != flagNo {
		return api.ErrFlag
	}
	r.row.Mirrored = field == flagYes
	return api.OK
}

package classes

import (
	"furrow/api"
	"furrow/lines"
	"furrow/points"
	"furrow/words"
)

const fieldCount = 2 // of a naming line, and of a missing line

// Read is the table of text; or none, and the Fault of the first line that is wrong.
func Read(file, text string) (*Table, error) {
	read, err := lines.Read(file, text)
	if err != nil {
		return nil, err
	}
	t := empty()
	takes := t.takes()
	for _, l := range read {
		if why := takes[l.Kind](l); why != api.OK {
			return nil, &api.Fault{File: file, Line: l.No, Code: why}
		}
	}
	return t, nil
}

// empty is the table of a file without lines: what nothing is said of is L.
func empty() *Table {
	t := &Table{named: points.New[naming](), unnamed: points.New[api.Class]()}
	t.unnamed.Lay(api.Range{Lo: 0, Hi: api.MaxRune}, api.L)
	return t
}

// takes is what the lines of each kind do to t, by their kinds.
func (t *Table) takes() []func(api.Line) api.Errno {
	return []func(api.Line) api.Errno{
		api.LineBlank:   t.takeBlank,
		api.LineData:    t.takeNaming,
		api.LineOrder:   t.takeOrder,
		api.LineMissing: t.takeMissing,
	}
}

func (t *Table) takeBlank(api.Line) api.Errno {
	return api.OK
}

func (t *Table) takeOrder(api.Line) api.Errno {
	return api.ErrOrder
}

func (t *Table) takeNaming(l api.Line) api.Errno {
	r, class, why := scan(l, api.ErrColumns)
	if why != api.OK {
		return why
	}
	return t.named.Put(r, naming{class: class, line: l.No})
}

// takeMissing lays what l says over what earlier ones say: the last one that has a code point holds.
func (t *Table) takeMissing(l api.Line) api.Errno {
	r, class, why := scan(l, api.ErrMissing)
	if why != api.OK {
		return why
	}
	t.missing = append(t.missing, api.Missing{Range: r, Class: class})
	return t.unnamed.Lay(r, class)
}

// scan is the range and the class that l's fields tell; uneven, if there are not two of them.
func scan(l api.Line, uneven api.Errno) (api.Range, api.Class, api.Errno) {
	if len(l.Fields) != fieldCount {
		return api.Range{}, 0, uneven
	}
	r, why := points.Span(l.Fields[0])
	if why != api.OK {
		return api.Range{}, 0, why
	}
	class, why := words.Class(l.Fields[1])
	return r, class, why
}

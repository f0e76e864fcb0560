package base

import (
	"cmp"
	"errors"
	"slices"
	"sort"

	"furrow/api"
	"furrow/brackets"
	"furrow/classes"
	"furrow/lines"
	"furrow/mirrors"
	"furrow/points"
	"furrow/rows"
)

// What faults call the files.
const (
	rowsFile     = "rows"
	classesFile  = "classes"
	bracketsFile = "brackets"
	mirrorsFile  = "mirrors"
)

// Compile is the base of the files; or none, and the Fault of the first line that is wrong, or that another file gainsays.
func Compile(f api.Files) (*Base, error) {
	b := &Base{}
	for _, step := range slices.Concat(b.readings(), b.askings()) {
		var fault *api.Fault
		if errors.As(step(f), &fault) {
			return nil, fault
		}
	}
	return b, nil
}

// readings are how each file is read, in the order in which their faults are told.
func (b *Base) readings() []func(api.Files) error {
	return []func(api.Files) error{b.readRows, b.readClasses, b.readBrackets, b.readMirrors}
}

// askings are how what was read is held against what the other files say, in the order in which their faults are told.
func (b *Base) askings() []func(api.Files) error {
	return []func(api.Files) error{b.askRows, b.askBrackets, b.takeTwins, b.askMirrors}
}

func (b *Base) readRows(f api.Files) (err error) {
	b.rows, err = rows.Read(rowsFile, f.Rows)
	return err
}

func (b *Base) readClasses(f api.Files) (err error) {
	b.table, err = classes.Read(classesFile, f.Classes)
	return err
}

func (b *Base) readBrackets(f api.Files) (err error) {
	b.book, err = brackets.Parse(bracketsFile, f.Brackets)
	return err
}

func (b *Base) readMirrors(f api.Files) (err error) {
	b.mirrors, err = mirrors.Read(mirrorsFile, f.Mirrors)
	b.turns = slices.SortedFunc(slices.Values(b.mirrors), func(m, n api.Mirror) int { return cmp.Compare(m.From, n.From) })
	return err
}

// askRows asks whether all code points of each row have its class.
func (b *Base) askRows(api.Files) error {
	whole := points.New[api.Class]()
	for r, class := range b.table.Whole() {
		whole.Put(r, class)
	}
	for _, row := range b.rows {
		stretch, class, _ := whole.Meets(api.Range{Lo: row.First, Hi: row.Last}) // each code point has a class: it is the stretch of First
		if class != row.Class || stretch.Hi < row.Last {
			return unlike(rowsFile, row.Line)
		}
	}
	return nil
}

// askBrackets asks whether the class of each bracket is ON. The lines are gone through once more: a book does not tell their numbers.
func (b *Base) askBrackets(f api.Files) error {
	read, err := lines.Read(bracketsFile, f.Brackets)
	for _, l := range read {
		if l.Kind != api.LineData {
			continue
		}
		at, _ := points.Hex(l.Fields[0]) // the line was read as a row: these are digits
		if b.table.Class(at) != api.ON {
			return unlike(bracketsFile, l.No)
		}
	}
	return err
}

// takeTwins gives the book the twins of the rows.
func (b *Base) takeTwins(api.Files) error {
	var twins []api.Twin
	for bracket := range b.book.Rows() {
		if row, is := b.row(bracket.At); is && row.Twin != 0 {
			twins = append(twins, api.Twin{At: bracket.At, As: row.Twin})
		}
	}
	book, place, why := b.book.Twins(twins...)
	if why != api.OK {
		row, _ := b.row(twins[place].At)
		return &api.Fault{File: rowsFile, Line: row.Line, Code: why}
	}
	b.book = book
	return nil
}

// askMirrors asks whether a row that is Mirrored names each From.
func (b *Base) askMirrors(api.Files) error {
	for _, m := range b.mirrors {
		if row, is := b.row(m.From); !is || !row.Mirrored {
			return unlike(mirrorsFile, m.Line)
		}
	}
	return nil
}

// row is the row that names r. It is what rows.Find answers, but the rows rise, so that not each of them need be looked at.
func (b *Base) row(r rune) (api.Row, bool) {
	place := sort.Search(len(b.rows), func(i int) bool { return b.rows[i].Last >= r })
	if place == len(b.rows) || b.rows[place].First > r {
		return api.Row{}, false
	}
	return b.rows[place], true
}

func unlike(file string, line int) error {
	return &api.Fault{File: file, Line: line, Code: api.ErrUnlike}
}

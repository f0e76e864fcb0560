package base

import (
	"slices"
	"strings"

	"furrow/api"
	"furrow/brackets"
	"furrow/classes"
	"furrow/lines"
	"furrow/mirrors"
	"furrow/points"
	"furrow/rows"
)

// Naive is the point of r by the lines that speak of it, and no others; Compile's error, if the files are no database. It looks nothing up that Compile makes, so that the two can be held against one another.
func Naive(f api.Files, r rune) (api.Point, error) {
	if _, err := Compile(f); err != nil {
		return api.Point{}, err
	}
	r = known(r)
	p := api.Point{Class: classBy(f.Classes, r), Twin: r}
	p.Other, p.Side = bracketBy(f.Brackets, r)
	if as := twinBy(f.Rows, r); p.Side != api.None && as != 0 {
		p.Twin = as
	}
	p.Mirror, p.Turns = mirrorBy(f.Mirrors, r)
	return p, nil
}

// The files are right here, and so is what of their lines speaks of one number: none of these readings has a fault.

func classBy(text string, r rune) api.Class {
	table, _ := classes.Read(classesFile, about(text, func(l api.Line) bool {
		return len(l.Fields) > 0 && isWithin(l.Fields[0], r)
	}))
	return table.Class(r)
}

func isWithin(span string, r rune) bool {
	s, why := points.Span(span)
	return why == api.OK && s.Lo <= r && r <= s.Hi
}

func bracketBy(text string, r rune) (rune, api.Side) {
	book, _ := brackets.Parse(bracketsFile, about(text, naming(r))) // both lines of its pair name it
	return book.Bracket(r)
}

func mirrorBy(text string, r rune) (rune, bool) {
	list, _ := mirrors.Read(mirrorsFile, about(text, naming(r))) // so do the mirror there and the one back
	return mirrors.Of(list, r)
}

func twinBy(text string, r rune) rune {
	list, _ := rows.Read(rowsFile, text) // a row of two lines names r in neither of them, where it lies in between
	row, _ := rows.Find(list, r)
	return row.Twin
}

// naming is whether a line has r in a field. A code point has its digits in one way alone.
func naming(r rune) func(api.Line) bool {
	digits, _ := points.Show(r)
	return func(l api.Line) bool { return slices.Contains(l.Fields, digits) }
}

// about is those lines of text of which speaks says so.
func about(text string, speaks func(api.Line) bool) string {
	var kept strings.Builder
	for no, line := range lines.Each(text) {
		if l, why := lines.Scan(no, line); why == api.OK && speaks(l) {
			kept.WriteString(line + "\n")
		}
	}
	return kept.String()
}

package rows

import (
	"iter"
	"slices"
	"strings"

	"furrow/api"
)

const (
	halfOpens   = "<"
	firstCloses = ", First>"
	lastCloses  = ", Last>"
)

// end is which end of its row a line tells.
type end uint8

const (
	both end = iota // the line is no half
	first
	last
)

// halfName is the plain name of a half, and which it is; of what is no half the name as it is.
func halfName(name string) (plain string, which end) {
	behind, opens := strings.CutPrefix(name, halfOpens)
	if !opens {
		return name, both
	}
	if plain, closes := strings.CutSuffix(behind, firstCloses); closes && plain != "" {
		return plain, first
	}
	if plain, closes := strings.CutSuffix(behind, lastCloses); closes && plain != "" {
		return plain, last
	}
	return name, both
}

// entry is a line with its row, whose name is the plain one.
type entry struct {
	line  api.Line
	row   api.Row
	which end
}

// walk is how far the lines have been gone through.
type walk struct {
	above rune  // the code point of the line ahead: rows rise, and so do the two ends of one, so that each line's must be above it
	held  entry // the First that waits for its Last; of no half, if none waits
}

// each tells the rows of the lines, each with OK; and of a line that is wrong a row with its number alone, and why it is. Such a line is as one that does not stand there.
func each(read []api.Line) iter.Seq2[api.Row, api.Errno] {
	return func(yield func(api.Row, api.Errno) bool) {
		w := walk{above: -1}
		steps := []func(*entry) api.Errno{w.scan, w.askName, w.askRising, w.askPair}
	next:
		for _, l := range read {
			if l.Kind == api.LineBlank || l.Kind == api.LineMissing {
				continue
			}
			e := entry{line: l}
			for _, step := range steps {
				if why := step(&e); why != api.OK {
					if !yield(api.Row{Line: l.No}, why) {
						return
					}
					continue next
				}
			}
			if row, whole := w.take(e); whole && !yield(row, api.OK) {
				return
			}
		}
		if w.held.which == first {
			yield(api.Row{Line: w.held.line.No}, api.ErrName)
		}
	}
}

func (w *walk) scan(e *entry) api.Errno {
	row, why := Scan(e.line)
	row.Name, e.which = halfName(row.Name)
	e.row = row
	return why
}

// askName asks whether a First has its Last behind it, and a Last its First ahead of it.
func (w *walk) askName(e *entry) api.Errno {
	waits, ends := w.held.which == first, e.which == last
	if waits != ends || waits && e.row.Name != w.held.row.Name {
		return api.ErrName
	}
	return api.OK
}

func (w *walk) askRising(e *entry) api.Errno {
	if e.row.First <= w.above {
		return api.ErrRising
	}
	return api.OK
}

// askPair asks whether a Last says what its First says. Fields 0 and 1 are the code point and the name, which are asked ahead of it.
func (w *walk) askPair(e *entry) api.Errno {
	if e.which == last && !slices.Equal(e.line.Fields[2:], w.held.line.Fields[2:]) {
		return api.ErrPair
	}
	return api.OK
}

// take goes on behind e: to its row; or, if it is a First, to none as yet.
func (w *walk) take(e entry) (row api.Row, whole bool) {
	w.above = e.row.First
	switch e.which {
	case first:
		w.held = e
		return api.Row{}, false
	case last:
		row := w.held.row
		row.Last = e.row.Last
		w.held = entry{}
		return row, true
	}
	return e.row, true
}

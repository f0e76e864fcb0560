package lines

import (
	"iter"
	"strings"

	"furrow/api"
)

const mark = "\uFEFF"

// extent is where in a text a line lies, its end left out.
type extent struct{ from, to int }

// Where is the line and the column of the place byte in text; 0 and 0, if there is no such place.
func Where(text string, byte int) (line, column int) {
	if byte < 0 || byte > len(text) {
		return 0, 0
	}
	var lies extent
	for no, e := range extents(text) {
		if no > 1 && e.from > byte { // the first line has the mark's places, too
			break
		}
		line, lies = no, e
	}
	for c, begin := range columns(text, lies) {
		if c > 1 && begin > byte {
			break
		}
		column = c
	}
	return line, column
}

// Place is the place in bytes of that column of that line: where its character begins, or, behind the last one, where the line's end does.
func Place(text string, line, column int) (int, api.Errno) {
	for no, e := range extents(text) {
		if no < line {
			continue
		}
		if no > line {
			break
		}
		for c, begin := range columns(text, e) {
			if c == column {
				return begin, api.OK
			}
		}
	}
	return 0, api.ErrArg
}

// extents tells where each line of text lies, with its number; behind a last end, and in a text without bytes, it tells one that is empty.
func extents(text string) iter.Seq2[int, extent] {
	return func(yield func(int, extent) bool) {
		from := 0
		if strings.HasPrefix(text, mark) {
			from = len(mark)
		}
		for no := 1; ; no++ {
			to, next, ended := lineEnd(text, from)
			if !yield(no, extent{from, to}) || !ended {
				return
			}
			from = next
		}
	}
}

// lineEnd is where the end of the line that begins at from itself begins and ends; false, if it has none.
func lineEnd(text string, from int) (to, next int, ended bool) {
	size := strings.IndexByte(text[from:], '\n')
	if size < 0 {
		return len(text), len(text), false
	}
	line := strings.TrimSuffix(text[from:from+size], "\r")
	return from + len(line), from + size + 1, true
}

// columns tells the place in bytes of each column of the line that lies there.
func columns(text string, e extent) iter.Seq2[int, int] {
	return func(yield func(int, int) bool) {
		column := 1
		for at := range text[e.from:e.to] {
			if !yield(column, e.from+at) {
				return
			}
			column++
		}
		yield(column, e.to)
	}
}

package classes

import (
	"strings"

	"furrow/api"
	"furrow/points"
	"furrow/words"
)

const (
	missingSign = "# @missing: "
	between     = "; " // the fields of a line
	lineEnd     = "\n"
)

// Write is the lines of t: the missing ones in their order, then those that name what is named.
func (t *Table) Write() string {
	var text strings.Builder
	for _, m := range t.held().missing {
		text.WriteString(missingSign + written(m.Range, m.Class, words.Long))
	}
	for r, class := range t.Named() {
		text.WriteString(written(r, class, words.Short))
	}
	return text.String()
}

// written is the fields of r and class, as it is called there, and the line's end. What a table holds has digits and names.
func written(r api.Range, class api.Class, called func(api.Class) (string, api.Errno)) string {
	span, _ := points.ShowSpan(r)
	name, _ := called(class)
	return span + between + name + lineEnd
}

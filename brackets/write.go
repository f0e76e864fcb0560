package brackets

import (
	"strings"

	"furrow/api"
	"furrow/points"
	"furrow/words"
)

const (
	between = "; " // the fields of a line
	lineEnd = "\n"
)

// Write is a line for each row, by rising At.
func (b *Book) Write() string {
	var text strings.Builder
	for row := range b.Rows() {
		text.WriteString(written(row))
	}
	return text.String()
}

// written is the line of row. What a book holds has digits and a letter.
func written(row api.Bracket) string {
	at, _ := points.Show(row.At)
	other, _ := points.Show(row.Other)
	letter, _ := words.Letter(row.Side)
	return at + between + other + between + letter + lineEnd
}

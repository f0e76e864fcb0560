package base

import (
	"furrow/api"
	"furrow/mirrors"
	"furrow/rows"
)

// Files is b as texts of which Compile makes the same. What was read can be printed.
func (b *Base) Files() api.Files {
	if !b.made() {
		return api.Files{}
	}
	characters, _ := rows.Print(b.rows...)
	turned, _ := mirrors.Print(b.mirrors...)
	return api.Files{Rows: characters, Classes: b.table.Write(), Brackets: b.book.Write(), Mirrors: turned}
}

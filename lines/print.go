package lines

import (
	"slices"
	"strings"

	"furrow/api"
)

// Print is the line that Scan reads as l; ErrLine, if there is none of the form in which lines are written.
func Print(l api.Line) (string, api.Errno) {
	line := written(l)
	read, why := Scan(l.No, line)
	if why != api.OK || !isSame(read, l) {
		return "", api.ErrLine
	}
	return line, api.OK
}

func isSame(a, b api.Line) bool {
	return a.No == b.No && a.Kind == b.Kind && a.Name == b.Name && slices.Equal(a.Fields, b.Fields) && a.Note == b.Note
}

// written is l in the form in which lines are written, be it read as l or not.
func written(l api.Line) string {
	line := writtenHead(l)
	if l.Note == "" {
		return line
	}
	if line != "" {
		line += " "
	}
	return line + "# " + l.Note
}

func writtenHead(l api.Line) string {
	switch l.Kind {
	case api.LineData:
		return writtenFields(l.Fields)
	case api.LineOrder:
		return withFields(orderSign+l.Name+":", l.Fields)
	case api.LineMissing:
		return withFields("# "+missingSign, l.Fields)
	}
	return ""
}

func withFields(beginning string, fields []string) string {
	if len(fields) == 0 {
		return beginning
	}
	return beginning + " " + writtenFields(fields)
}

func writtenFields(fields []string) string {
	return strings.Join(fields, "; ")
}

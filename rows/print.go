package rows

import (
	"strconv"
	"strings"

	"furrow/api"
	"furrow/points"
	"furrow/words"
)

// Check is ErrArg or ErrRising at the first of the rows that may not stand where it does; OK, if all may.
func Check(rows ...api.Row) api.Errno {
	_, why := Print(rows...)
	return why
}

// Print is the lines of the rows; Check's error, if one may not stand where it does.
func Print(rows ...api.Row) (string, api.Errno) {
	var text strings.Builder
	for i, row := range rows {
		wrote := written(row)
		if !isRead(wrote, row) {
			return "", api.ErrArg
		}
		if i > 0 && row.First <= rows[i-1].Last {
			return "", api.ErrRising
		}
		text.WriteString(wrote)
	}
	return text.String(), api.OK
}

// isRead tells whether Read of text answers row, but for its number.
func isRead(text string, row api.Row) bool {
	read, err := Read("", text)
	if err != nil || len(read) != 1 {
		return false
	}
	row.Line = read[0].Line
	return read[0] == row
}

// written is row's lines, be they read as row or not.
func written(row api.Row) string {
	if row.First == row.Last {
		return writtenLine(row.First, row.Name, row)
	}
	return writtenLine(row.First, halfOpens+row.Name+firstCloses, row) +
		writtenLine(row.Last, halfOpens+row.Name+lastCloses, row)
}

// writtenLine is a line of row, of that code point and name. What has no digits or no name is left empty: such a line is not read as row, as isRead finds.
func writtenLine(point rune, name string, row api.Row) string {
	digits, _ := points.Show(point)
	class, _ := words.Short(row.Class)
	twin, flag := "", flagNo
	if row.Twin != 0 {
		twin, _ = points.Show(row.Twin)
	}
	if row.Mirrored {
		flag = flagYes
	}
	comb := strconv.Itoa(int(row.Comb))
	fields := []string{digits, name, row.Cat, comb, class, twin, "", "", "", flag, "", "", "", "", ""}
	return strings.Join(fields, ";") + "\n"
}

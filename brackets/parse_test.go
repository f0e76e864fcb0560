package brackets_test

import (
	"slices"
	"strings"
	"testing"

	"furrow/api"
	"furrow/brackets"
	"furrow/lines"
	"furrow/points"
	"furrow/trial"
	"furrow/words"
)

// faultOf is the rows of text; or the line that Parse must refuse, and why, with all rows held against one another anew at each line, as the promise has it.
func faultOf(text string) (rows []api.Bracket, line int, why api.Errno) {
	var numbers []int
	for no, line := range lines.Each(text) {
		l, why := lines.Scan(no, line)
		if why != api.OK {
			return nil, no, why
		}
		if l.Kind == api.LineBlank || l.Kind == api.LineMissing {
			continue
		}
		if l.Kind == api.LineOrder || len(l.Fields) != 3 {
			return nil, no, api.ErrBracket
		}
		at, atWhy := points.Hex(l.Fields[0])
		other, otherWhy := points.Hex(l.Fields[1])
		side, sideWhy := words.Side(l.Fields[2])
		for _, why := range []api.Errno{atWhy, otherWhy, sideWhy} {
			if why != api.OK {
				return nil, no, why
			}
		}
		rows, numbers = append(rows, row(at, other, side)), append(numbers, no)
		if _, why := refusalOf(rows); why == api.ErrBracket || why == api.ErrTwice {
			return nil, no, why
		}
	}
	if at, why := refusalOf(rows); why != api.OK {
		return nil, numbers[at], why
	}
	return rows, 0, api.OK
}

// isParsedOrNot holds Parse of text against a look through its lines, be it right or wrong; it tells which it was.
func isParsedOrNot(t *testing.T, text string) (right bool) {
	t.Helper()
	rows, line, why := faultOf(text)
	if why != api.OK {
		isRefused(t, "f", text, line, why)
		return false
	}
	isBook(t, parsed(t, text), rows)
	return true
}

// 8.2: the chapter's examples.
func TestParse(t *testing.T) {
	isBook(t, parsed(t, "0028; 0029; o # LEFT\n0029;0028;c"), pairs('(', ')'))
	isRefused(t, "f", "0028; 0029", 1, api.ErrBracket)
	isRefused(t, "f", "0028; 0029; x", 1, api.ErrNoSide)
}

// nothings are texts without a line that says something.
func nothings() []string {
	return []string{"", "\n", "\r\n", "\n\n\n", " \t\n\t", "#", "# n", "# 0028; 0029; o", "# @missing: 0028; 0029; o", "# @missing:", "# @missing: x", "#@missing: 0000..10FFFF; <none>; n\n", mark, mark + "# n\r\n\n#\n", "# @missing: ;;;;\n# @missing: 0028;0028;x"}
}

// 8.2: texts of nothing, of blank lines, notes and missing lines alone.
func TestParseNothing(t *testing.T) {
	for _, s := range nothings() {
		isBook(t, parsed(t, s), nil)
		s = strings.TrimPrefix(s, mark) // it is one at a text's beginning alone
		isBook(t, parsed(t, text("0028;0029;o", s, "0029;0028;c")), pairs('(', ')'))
	}
	isRefused(t, "f", text("0028;0029;o", mark, "0029;0028;c"), 2, api.ErrBracket)
}

// 8.2: another number of fields than three.
func TestParseFields(t *testing.T) {
	for _, line := range []string{"0028", "0028; 0029", "0028; 0029;", "0028; 0029; o; ", "0028; 0029; o; c", ";0028;0029;o", ";", ";;;", "x", "x;y", "a;b;c;d", "0028 0029 o", "0028, 0029, o", strings.Repeat(";", 1000)} {
		want := api.ErrBracket
		if strings.Count(line, ";") == 2 {
			want = api.ErrNoSide
		}
		isRefused(t, "f", line, 1, want)
		isRefused(t, "f", text("", line+" # n ; n"), 2, want)
	}
	for _, line := range []string{"0028;0029;o", "\t0028 ;\t0029 ; o ", "0028;0029;o# n", "0028;0029;o # n ; n ; n", "0028;0029;o#;"} {
		isBook(t, parsed(t, text(line, "0029;0028;c")), pairs('(', ')'))
	}
}

// 8.2: what is no code point, in the first field and in the second.
func TestParseNumbers(t *testing.T) {
	for _, none := range []string{"", "28", "00028", "110000", "1000000", "002b", "0x28", "U+0028", "-0028", "0028..0029", "0028 0029", "(", "\ufffd", "D80"} {
		isRefused(t, "f", none+"; 0029; o", 1, api.ErrHex)
		isRefused(t, "f", "0029; "+none+"; o", 1, api.ErrHex)
		isRefused(t, "f", text("# n", none+";"+none+";o"), 2, api.ErrHex)
	}
	for _, two := range [][2]rune{{0, 1}, {0, api.MaxRune}, {api.MaxRune, 0}, {0xFFFF, 0x10000}, {0xD800, 0xDFFF}, {api.Replaced, 0xFFFE}} {
		isBook(t, parsed(t, writtenOf(pairs(two[0], two[1]))), pairs(two[0], two[1]))
	}
}

// 8.2: sides by all of their names, and what names none.
func TestParseSides(t *testing.T) {
	for _, open := range []string{"o", "O", "Open", "OPEN", "o p e n", "_open-"} {
		for _, closes := range []string{"c", "C", "Close", "CLOSE", "clo se", "c_"} {
			isBook(t, parsed(t, text("0028;0029;"+open, "0029;0028;"+closes)), pairs('(', ')'))
		}
	}
	for _, none := range []string{"", "x", "oo", "Opens", "Closes", "o c", "1", "0", "_", "ｏ", "\ufffd"} {
		isRefused(t, "f", "0028;0029;"+none, 1, api.ErrNoSide)
	}
	for _, neither := range []string{"n", "N", "None", "no ne"} {
		isRefused(t, "f", "0028;0029;"+neither, 1, api.ErrBracket)
	}
}

// 8.2: of a line with two things wrong the first in the promise's order.
func TestParseOneLineTwiceWrong(t *testing.T) {
	for line, why := range map[string]api.Errno{
		"x;y": api.ErrBracket, "28;0029;o;c": api.ErrBracket, "0028;0029": api.ErrBracket,
		"28;0029;x": api.ErrHex, "0028;29;x": api.ErrHex, ";;": api.ErrHex, "0028;29;o": api.ErrHex, "28;28;n": api.ErrHex,
		"0028;0028;x": api.ErrNoSide, "0028;0029;x": api.ErrNoSide,
		"0028;0028;o": api.ErrBracket, "0028;0029;n": api.ErrBracket, "0028;0028;n": api.ErrBracket, "0040;0040;o": api.ErrBracket,
		"0028;0029;o": api.ErrTwice, "0028;0040;c": api.ErrTwice,
		"@x: 0028": api.ErrBracket, "@x:": api.ErrBracket, "@x": api.ErrOrder, "@": api.ErrOrder, "@x \xff": api.ErrBytes, "x;y;\x01": api.ErrControl,
	} {
		isRefused(t, "f", text("0028; 0029; o", "0029; 0028; c", "", line), 4, why)
		isRefused(t, "f", text("0028; 0029; o", "0050; 0051; o", "", line), 4, why)
	}
}

// wrongLines are lines that are wrong behind a row of 0028, and why.
func wrongLines() map[string]api.Errno {
	return map[string]api.Errno{
		"0028": api.ErrBracket, "0040; 0041; o; c": api.ErrBracket, "@x: y": api.ErrBracket, "40; 0041; o": api.ErrHex, "0040; x; o": api.ErrHex, "0040; 0041; x": api.ErrNoSide,
		"0040; 0040; o": api.ErrBracket, "0040; 0041; n": api.ErrBracket, "0028; 0029; o": api.ErrTwice,
		"\xff": api.ErrBytes, "# \x80": api.ErrBytes, "0040; 0041; o\x00": api.ErrControl, "@x": api.ErrOrder, strings.Repeat("é", api.MaxLine+1): api.ErrWide,
	}
}

// 8.2: of two lines that are wrong the first; one that Scan refuses counts no more than others; a lone row counts only where no line is wrong.
func TestParseFirstFault(t *testing.T) {
	for first, why := range wrongLines() {
		for second := range wrongLines() {
			isRefused(t, "f", text("0028; 0029; o", first, second), 2, why)
			isRefused(t, "f", text("0028; 0029; o", "0029; 0028; c", "# n", first, "", second), 4, why)
		}
		isRefused(t, "f", text("0050; 0051; o", "0028; 0029; o", first), 3, why)
		isRefused(t, "f", text("0028; 0029; c", first, "0060; 0061; o"), 2, why)
	}
}

// 8.2: the line of a lone row, behind lines that say nothing; of two the first.
func TestParseLone(t *testing.T) {
	for _, c := range []struct {
		text string
		line int
	}{
		{"0028; 0029; o", 1},
		{"\n# n\n\n# @missing: 0028; 0029; o\n0028; 0029; o\n", 5},
		{mark + "\r\n\r\n0028; 0029; o\r\n", 3},
		{"0028; 0029; o\n\n0029; 0028; c\n\n\n0040; 0041; c\n0050; 0051; o", 6},
		{"0028; 0029; o\n0029; 0028; o", 1},
		{"\n0028; 0029; o\n0029; 0030; c\n", 2},
		{"0029; 0028; c\n\n0030; 0028; c\n0028; 0029; o", 3},
		{"0000; 0001; o", 1},
	} {
		isRefused(t, "f", c.text, c.line, api.ErrLone)
	}
}

// 8.2: an order line, and a line whose bytes stand for nothing, wherever they stand.
func TestParseOrderAndBytes(t *testing.T) {
	for _, order := range []string{"@x: y", "@x:", " \t@x-Y_9: a; b # n", "@missing: 0028; 0029; o", "@x: 0028; 0029; o"} {
		isRefused(t, "f", order, 1, api.ErrBracket)
		isRefused(t, "f", text("0028;0029;o", "", order, "0029;0028;c"), 3, api.ErrBracket)
	}
	for _, wrong := range []string{"\xff", "0040;0041;o # \xc3", "# @missing: \x80", "\xed\xa0\x80"} {
		isRefused(t, "f", wrong, 1, api.ErrBytes)
		isRefused(t, "f", text("0028;0029;o", "0029;0028;c", "", wrong), 4, api.ErrBytes)
	}
	isBook(t, parsed(t, "# @x: y\n# \ufffd"), nil)
}

// 8.2: the fault tells the file as it is handed in.
func TestParseFiles(t *testing.T) {
	for _, file := range []string{"", "f", "g h", "\xff", "f:1", strings.Repeat("f", 5000)} {
		isRefused(t, file, "0028", 1, api.ErrBracket)
		isRefused(t, file, "\n\xff", 2, api.ErrBytes)
		isRefused(t, file, "\n\n0028;0029;o", 3, api.ErrLone)
	}
	if _, err := brackets.Parse("f", "\n0028"); err == nil || err.Error() != "f:2: error 80" {
		t.Errorf("told as %v", err)
	}
	if _, err := brackets.Parse("", "0028;0029;o"); err == nil || err.Error() != "line 1: error 82" {
		t.Errorf("told as %v", err)
	}
}

// someLines are lines of which texts are made.
func someLines() []string {
	return []string{
		"0028; 0029; o", "0029;0028;c", "005B; 005D; o # n", "005D;005B;Close", "0000; 10FFFF; c", "10FFFF; 0000; open", "0028; 005D; o", "005D; 0028; c",
		"", "# n", "# @missing: 0000..10FFFF; <none>; n",
		"0028; 0029; c", "0028; 0028; o", "0029; 0028; n", "0028; 0029", "28; 0029; o", "0028; 0029; x", "@x: y", "0040; 0041; o\xff",
	}
}

// 8.2, 8.4, 8.5: all texts of up to three lines, and of four of the eleven that are right by themselves.
func TestParseAllTexts(t *testing.T) {
	good := 0
	try := func(letters []string, size int) {
		for word := range trial.Words(letters, size) {
			if isParsedOrNot(t, text(word...)) {
				good++
			}
		}
	}
	for size := range 4 {
		try(someLines(), size)
	}
	try(someLines()[:11], 4)
	if good < 400 {
		t.Errorf("only %d texts are books", good)
	}
}

// 8.2: longer texts, with lines that say nothing between, and a wrong one now and then.
func TestParseLongerTexts(t *testing.T) {
	next := trial.Numbers()
	pick := func(n int) int { return int(next()>>8) % n }
	good := 0
	wrong := slices.Sorted(func(yield func(string) bool) {
		for line := range wrongLines() {
			if !yield(line) {
				return
			}
		}
	})
	for range 1500 {
		var list []string
		for i := range pick(12) {
			at := rune(pick(40) * 2)
			if pick(6) > 0 {
				at = rune(0x100 + 2*i)
			}
			both := strings.SplitAfter(writtenOf(pairs(at, at+1)), "\n")[:2]
			for _, line := range both {
				list = slices.Insert(list, pick(len(list)+1), strings.TrimSuffix(line, "\n")+[]string{"", " # n", "\r"}[pick(3)])
			}
			if pick(3) == 0 {
				list = append(list, nothings()[pick(11)])
			}
			if pick(40) == 0 {
				list = slices.Insert(list, pick(len(list)+1), wrong[pick(len(wrong))])
			}
			if pick(40) == 0 {
				at := pick(len(list))
				list = slices.Delete(list, at, at+1)
			}
		}
		if isParsedOrNot(t, text(list...)) {
			good++
		}
	}
	if good < 300 || good > 1400 {
		t.Errorf("%d texts are books", good)
	}
}

package lines_test

import (
	"iter"
	"math"
	"slices"
	"strings"
	"testing"
	"unicode/utf8"

	"furrow/api"
	"furrow/lines"
	"furrow/trial"
)

// formOf is the form in which l is written, be it read as l or not; false of a kind that is none.
func formOf(l api.Line) (string, bool) {
	form, fields := "", strings.Join(l.Fields, "; ")
	switch l.Kind {
	case api.LineBlank:
	case api.LineData:
		form = fields
	case api.LineOrder:
		form = "@" + l.Name + ":"
	case api.LineMissing:
		form = "# @missing:"
	default:
		return "", false
	}
	if len(l.Fields) > 0 && (l.Kind == api.LineOrder || l.Kind == api.LineMissing) {
		form += " " + fields
	}
	if l.Note != "" && form != "" {
		form += " "
	}
	if l.Note != "" {
		form += "# " + l.Note
	}
	return form, true
}

// P3.6
func TestPrint(t *testing.T) {
	for _, c := range []struct {
		l    api.Line
		want string
	}{
		{api.Line{}, ""},
		{api.Line{Note: "n"}, "# n"},
		{api.Line{Note: "# n # o"}, "# # n # o"},
		{api.Line{Note: "@missing"}, "# @missing"},
		{api.Line{Note: "@x: y; z"}, "# @x: y; z"},
		{api.Line{Fields: []string{}, Note: "n"}, "# n"},
		{api.Line{Kind: api.LineData, Fields: list("0041", "L"), Note: "A"}, "0041; L # A"},
		{api.Line{Kind: api.LineData, Fields: list("a")}, "a"},
		{api.Line{Kind: api.LineData, Fields: list("", "")}, "; "},
		{api.Line{Kind: api.LineData, Fields: list("", ""), Note: "n"}, ";  # n"},
		{api.Line{Kind: api.LineData, Fields: list("", "@a: b", "c \t d", "")}, "; @a: b; c \t d; "},
		{api.Line{Kind: api.LineData, Fields: list("a"), Note: "@missing: b"}, "a # @missing: b"},
		{api.Line{Kind: api.LineOrder, Name: "x"}, "@x:"},
		{api.Line{Kind: api.LineOrder, Name: "x", Fields: []string{}}, "@x:"},
		{api.Line{Kind: api.LineOrder, Name: "x", Note: "n"}, "@x: # n"},
		{api.Line{Kind: api.LineOrder, Name: "A-_9", Fields: list("a b", ":c"), Note: "n"}, "@A-_9: a b; :c # n"},
		{api.Line{Kind: api.LineOrder, Name: "x", Fields: list("", "")}, "@x: ; "},
		{api.Line{Kind: api.LineMissing}, "# @missing:"},
		{api.Line{Kind: api.LineMissing, Note: "n"}, "# @missing: # n"},
		{api.Line{Kind: api.LineMissing, Note: "@missing: n"}, "# @missing: # @missing: n"},
		{api.Line{Kind: api.LineMissing, Fields: list("0000..10FFFF", "L")}, "# @missing: 0000..10FFFF; L"},
		{api.Line{Kind: api.LineMissing, Fields: list("@a: b", ""), Note: "n"}, "# @missing: @a: b;  # n"},
		{api.Line{Kind: api.LineData, Fields: list("\u00a0", fffd), Note: "\u3000"}, "\u00a0; " + fffd + " # \u3000"},
	} {
		for _, no := range []int{1, 0, -5, math.MinInt, math.MaxInt} {
			c.l.No = no
			if got, why := lines.Print(c.l); got != c.want || why != api.OK {
				t.Errorf("Print of %v = %q, %d", c.l, got, why)
			}
		}
	}
}

// P3.6: lines that can't be written.
func TestPrintRefuses(t *testing.T) {
	for _, l := range []api.Line{
		{Kind: 4}, {Kind: 4, Note: "n"}, {Kind: 255, Fields: list("a")}, {Kind: 128, Name: "x"},
		{Kind: api.LineData},
		{Kind: api.LineData, Fields: []string{}, Note: "n"},
		{Kind: api.LineData, Fields: list("")},
		{Kind: api.LineData, Fields: list(""), Note: "n"},
		{Kind: api.LineData, Fields: list("a;b")},
		{Kind: api.LineData, Fields: list(";")},
		{Kind: api.LineData, Fields: list("a", ";")},
		{Kind: api.LineData, Fields: list("a#b")},
		{Kind: api.LineData, Fields: list("a", "#")},
		{Kind: api.LineData, Fields: list("a", "#b")},
		{Kind: api.LineData, Fields: list("a", "b#b"), Note: "n"},
		{Kind: api.LineData, Fields: list(" a")},
		{Kind: api.LineData, Fields: list("a\t")},
		{Kind: api.LineData, Fields: list("a", " ")},
		{Kind: api.LineData, Fields: list("@a")},
		{Kind: api.LineData, Fields: list("@a: b")},
		{Kind: api.LineData, Fields: list("a\n")},
		{Kind: api.LineData, Fields: list("a\r\nb")},
		{Kind: api.LineData, Fields: list("a\xff")},
		{Kind: api.LineData, Fields: list("a\xe2\x82", "b")},
		{Kind: api.LineData, Fields: list("a"), Note: " n"},
		{Kind: api.LineData, Fields: list("a"), Note: "n\t"},
		{Kind: api.LineData, Fields: list("a"), Note: " "},
		{Kind: api.LineData, Fields: list("a"), Note: "n\nm"},
		{Kind: api.LineData, Fields: list("a"), Note: "\x80"},
		{Kind: api.LineData, Fields: list("a"), Note: "\x7f"},
		{Kind: api.LineData, Fields: list("a"), Name: "x"},
		{Kind: api.LineBlank, Name: "x"},
		{Kind: api.LineBlank, Fields: list("")},
		{Kind: api.LineBlank, Fields: list("a"), Note: "n"},
		{Kind: api.LineBlank, Note: "@missing:"},
		{Kind: api.LineBlank, Note: "@missing: a"},
		{Kind: api.LineBlank, Note: " n"},
		{Kind: api.LineBlank, Note: "\n"},
		{Kind: api.LineOrder},
		{Kind: api.LineOrder, Fields: list("a")},
		{Kind: api.LineOrder, Name: "a b"},
		{Kind: api.LineOrder, Name: "a:"},
		{Kind: api.LineOrder, Name: "a:b"},
		{Kind: api.LineOrder, Name: "@"},
		{Kind: api.LineOrder, Name: "#"},
		{Kind: api.LineOrder, Name: "é"},
		{Kind: api.LineOrder, Name: "\xff"},
		{Kind: api.LineOrder, Name: " a"},
		{Kind: api.LineOrder, Name: "a", Fields: list("")},
		{Kind: api.LineOrder, Name: "a", Fields: list(""), Note: "n"},
		{Kind: api.LineOrder, Name: "a", Fields: list("b;c")},
		{Kind: api.LineOrder, Name: "a", Fields: list("b#c")},
		{Kind: api.LineOrder, Name: "a", Note: "n "},
		{Kind: api.LineMissing, Name: "missing"},
		{Kind: api.LineMissing, Fields: list("")},
		{Kind: api.LineMissing, Fields: list(" ")},
		{Kind: api.LineMissing, Fields: list("a;b")},
		{Kind: api.LineMissing, Fields: list("a#b")},
		{Kind: api.LineMissing, Fields: list("a"), Note: "n "},
	} {
		if got, why := lines.Print(l); got != "" || why != api.ErrLine {
			t.Errorf("Print of %v = %q, %d", l, got, why)
		}
	}
}

// someLines tells lines of each kind with names, fields and notes that may stand in them and such as may not.
func someLines() iter.Seq[api.Line] {
	return func(yield func(api.Line) bool) {
		fields := [][]string{nil}
		for size := 1; size <= 3; size++ {
			fields = slices.AppendSeq(fields, trial.Words([]string{"", "a", " ", "b c", "@a: b", "#", ";", "@missing:", "\n"}, size))
		}
		for kind := range api.LineKind(6) {
			for _, name := range []string{"", "a", "a b", ":"} {
				for _, note := range []string{"", "n", " n", "#", "@missing:", "@a: b; c", "\x80"} {
					for _, f := range fields {
						if !yield(api.Line{No: int(kind) - 2, Kind: kind, Name: name, Fields: f, Note: note}) {
							return
						}
					}
				}
			}
		}
	}
}

// P3.6 and P3.10: what Print answers is of that form, and Scan reads it as l; it refuses just what is not read so.
func TestPrintAndBack(t *testing.T) {
	good := 0
	for l := range someLines() {
		form, isKind := formOf(l)
		read, why := scanOf(l.No, form)
		if !isKind || why != api.OK || !isSame(read, l) {
			if got, why := lines.Print(l); got != "" || why != api.ErrLine {
				t.Fatalf("Print of %v = %q, %d", l, got, why)
			}
			continue
		}
		good++
		got, why := lines.Print(l)
		if got != form || why != api.OK {
			t.Fatalf("Print of %v = %q, %d, not %q", l, got, why, form)
		}
		if again, why := lines.Scan(l.No, got); why != api.OK || !isSame(again, l) {
			t.Fatalf("Scan of what Print answers of %v = %v, %d", l, again, why)
		}
	}
	if good < 100 {
		t.Errorf("only %d lines can be written", good)
	}
}

// P3.10: what Scan reads, Print writes, and Scan reads that as the same.
func TestScanAndBack(t *testing.T) {
	for line := range trial.Joined(signs, 5) {
		l, why := lines.Scan(9, line)
		if why != api.OK {
			continue
		}
		wrote, why := lines.Print(l)
		if why != api.OK {
			t.Fatalf("Print of what %q is = %q, %d", line, wrote, why)
		}
		if again, why := lines.Scan(9, wrote); why != api.OK || !isSame(again, l) {
			t.Fatalf("%q is written %q, which is %v, %d", line, wrote, again, why)
		}
		if twice, why := lines.Print(l); why != api.OK || twice != wrote {
			t.Fatalf("%q is written %q, then %q", line, wrote, twice)
		}
	}
}

// P3.10: a line that can be read, but, written, may have more than MaxLine characters.
func TestPrintTooLong(t *testing.T) {
	full := func(ahead, piece, behind string, size int) string {
		return ahead + strings.Repeat(piece, size-utf8.RuneCountInString(ahead+behind)) + behind
	}
	for _, c := range []struct {
		ahead, piece, behind string
		more                 int // by how much it grows
	}{
		{"", "é", "", 0}, {"a;", "é", "", 1}, {"a;b;", "a", "", 2}, {"@x:", "a", "", 1}, {"@x: ", "a", "", 0}, {"#", "\u20ac", "", 1},
		{"# ", "a", "", 0}, {"#@missing:", "a", "", 2}, {"# @missing:", "a", "", 1}, {"a#", "a", "", 2}, {"a #", "a", "", 1}, {"a # ", "a", "", 0},
		{"@", "n", ":", 0}, {"@", "n", ":#n", 2}, {"  ", "a", "  ", -4}, {"@x:\t\t", "a", " # n", -1},
	} {
		for size := api.MaxLine - 6; size <= api.MaxLine; size++ {
			l, why := lines.Scan(1, full(c.ahead, c.piece, c.behind, size))
			if why != api.OK {
				t.Fatalf("%q .. %q of %d characters is refused: %d", c.ahead, c.behind, size, why)
			}
			wrote, why := lines.Print(l)
			if size+c.more > api.MaxLine {
				if wrote != "" || why != api.ErrLine {
					t.Errorf("%q .. %q of %d characters is written with %d, %d", c.ahead, c.behind, size, utf8.RuneCountInString(wrote), why)
				}
				continue
			}
			if again, _ := lines.Scan(1, wrote); why != api.OK || utf8.RuneCountInString(wrote) != size+c.more || !isSame(again, l) {
				t.Errorf("%q .. %q of %d characters is written with %d, %d", c.ahead, c.behind, size, utf8.RuneCountInString(wrote), why)
			}
		}
	}
}

package lines_test

import (
	"math"
	"reflect"
	"regexp"
	"slices"
	"strings"
	"testing"

	"furrow/api"
	"furrow/lines"
	"furrow/trial"
)

// signs are the pieces of lines that mean something, and some that mean nothing.
var signs = []string{" ", "\t", ";", "#", "@", ":", "a", "@missing:", "é", "\x80"}

// fieldsOf is the fields of a piece, by its semicolons.
func fieldsOf(piece string) []string {
	if strings.Trim(piece, " \t") == "" {
		return nil
	}
	fields := strings.Split(piece, ";")
	for i := range fields {
		fields[i] = strings.Trim(fields[i], " \t")
	}
	return fields
}

// P3.3
func TestCut(t *testing.T) {
	for _, c := range []struct {
		line   string
		fields []string
		note   string
	}{
		{" 0041 ; L # LATIN ; A ", []string{"0041", "L"}, "LATIN ; A"},
		{";", []string{"", ""}, ""},
		{"#", nil, ""},
		{"", nil, ""},
		{" ", nil, ""},
		{"\t \t", nil, ""},
		{" \t#\t ", nil, ""},
		{"a", []string{"a"}, ""},
		{"\ta b\t", []string{"a b"}, ""},
		{"a \t b", []string{"a \t b"}, ""},
		{" ; \t;", []string{"", "", ""}, ""},
		{";;;", []string{"", "", "", ""}, ""},
		{"a;", []string{"a", ""}, ""},
		{";a", []string{"", "a"}, ""},
		{" a ; b c ;\td\t", []string{"a", "b c", "d"}, ""},
		{"a#", []string{"a"}, ""},
		{"#a", nil, "a"},
		{"##", nil, "#"},
		{"a#b#c", []string{"a"}, "b#c"},
		{"a # b # c # ", []string{"a"}, "b # c #"},
		{"; # ;", []string{"", ""}, ";"},
		{" ;#x", []string{"", ""}, "x"},
		{"@x: a; b", []string{"@x: a", "b"}, ""},
		{"# @missing: x", nil, "@missing: x"},
		{"\u00a0a\u00a0;\u3000;\x0b\x0c\r#\u2003b\u2003", []string{"\u00a0a\u00a0", "\u3000", "\x0b\x0c\r"}, "\u2003b\u2003"},
		{"\x80;\xff\xc3 ; \x00 #\xa9\n", []string{"\x80", "\xff\xc3", "\x00"}, "\xa9\n"},
		{"a\nb;c\nd#e\nf#g\n", []string{"a\nb", "c\nd"}, "e\nf#g\n"},
	} {
		if fields, note := lines.Cut(c.line); !slices.Equal(fields, c.fields) || note != c.note {
			t.Errorf("Cut of %q = %q, %q", c.line, fields, note)
		}
	}
}

// P3.3: of any bytes, and of lines longer than they may be.
func TestCutOfAll(t *testing.T) {
	check := func(line string) {
		head, behind, _ := strings.Cut(line, "#")
		wantFields, wantNote := fieldsOf(head), strings.Trim(behind, " \t")
		if fields, note := lines.Cut(line); !slices.Equal(fields, wantFields) || note != wantNote {
			t.Fatalf("Cut of %q = %q, %q, not %q, %q", line, fields, note, wantFields, wantNote)
		}
	}
	for line := range trial.Joined(signs, 5) {
		check(line)
	}
	for b := range 256 {
		one := string([]byte{byte(b)})
		for _, line := range []string{one, one + "a" + one + ";" + one + "#" + one + "b" + one, "a" + one + one + "b"} {
			check(line)
		}
	}
	for _, piece := range []string{";", "#", " ", "ab", "a; b", "é#"} {
		check(strings.Repeat(piece, 3*api.MaxLine))
	}
}

// orderForm is a line whose head begins with @ and is an order: its name, its fields, its note.
var orderForm = regexp.MustCompile(`^[ \t]*@([A-Za-z0-9_-]+):([^#]*)(?:#(.*))?$`)

// missingForm is a line whose head is empty and whose note begins with @missing: with its fields and note.
var missingForm = regexp.MustCompile(`^[ \t]*#[ \t]*@missing:([^#]*)(?:#(.*))?$`)

// scanOf is Scan's answer, by the forms that lines have.
func scanOf(no int, line string) (api.Line, api.Errno) {
	if _, why := firstFault(line); why != api.OK {
		return api.Line{}, why
	}
	l := api.Line{No: no}
	var parts []string
	switch head, note, _ := strings.Cut(line, "#"); {
	case strings.HasPrefix(strings.TrimLeft(line, " \t"), "@"):
		match := orderForm.FindStringSubmatch(line)
		if match == nil {
			return api.Line{}, api.ErrOrder
		}
		l.Kind, l.Name = api.LineOrder, match[1]
		parts = match[2:]
	case missingForm.MatchString(line):
		l.Kind = api.LineMissing
		parts = missingForm.FindStringSubmatch(line)[1:]
	default:
		parts = []string{head, note}
		if strings.Trim(head, " \t") != "" {
			l.Kind = api.LineData
		}
	}
	l.Fields, l.Note = fieldsOf(parts[0]), strings.Trim(parts[1], " \t")
	return l, api.OK
}

func isSame(a, b api.Line) bool {
	if len(a.Fields) == 0 && len(b.Fields) == 0 {
		a.Fields, b.Fields = nil, nil
	}
	return reflect.DeepEqual(a, b)
}

func list(fields ...string) []string { return fields }

// P3.4
func TestScan(t *testing.T) {
	for _, c := range []struct {
		line string
		want api.Line
	}{
		{"", api.Line{}},
		{" \t ", api.Line{}},
		{"#", api.Line{}},
		{" # ", api.Line{}},
		{"# n", api.Line{Note: "n"}},
		{"## n #", api.Line{Note: "# n #"}},
		{"#@x: y", api.Line{Note: "@x: y"}},
		{"a", api.Line{Kind: api.LineData, Fields: list("a")}},
		{"\t0041 ;", api.Line{Kind: api.LineData, Fields: list("0041", "")}},
		{";", api.Line{Kind: api.LineData, Fields: list("", "")}},
		{";@x: y", api.Line{Kind: api.LineData, Fields: list("", "@x: y")}},
		{"a@b: c # d", api.Line{Kind: api.LineData, Fields: list("a@b: c"), Note: "d"}},
		{":", api.Line{Kind: api.LineData, Fields: list(":")}},
		{mark + "@", api.Line{Kind: api.LineData, Fields: list(mark + "@")}},
		{"\u00a0# n", api.Line{Kind: api.LineData, Fields: list("\u00a0"), Note: "n"}},
		{"@Levels: x 0 1", api.Line{Kind: api.LineOrder, Name: "Levels", Fields: list("x 0 1")}},
		{" \t@a:b", api.Line{Kind: api.LineOrder, Name: "a", Fields: list("b")}},
		{"@a:", api.Line{Kind: api.LineOrder, Name: "a"}},
		{"@a: \t", api.Line{Kind: api.LineOrder, Name: "a"}},
		{"@a: # n", api.Line{Kind: api.LineOrder, Name: "a", Note: "n"}},
		{"@a:#", api.Line{Kind: api.LineOrder, Name: "a"}},
		{"@a:;", api.Line{Kind: api.LineOrder, Name: "a", Fields: list("", "")}},
		{"@a: b ; c:d;@e: # f: g", api.Line{Kind: api.LineOrder, Name: "a", Fields: list("b", "c:d", "@e:"), Note: "f: g"}},
		{"@a::b", api.Line{Kind: api.LineOrder, Name: "a", Fields: list(":b")}},
		{"@AZaz09_-: x", api.Line{Kind: api.LineOrder, Name: "AZaz09_-", Fields: list("x")}},
		{"@-:", api.Line{Kind: api.LineOrder, Name: "-"}},
		{"@missing: x", api.Line{Kind: api.LineOrder, Name: "missing", Fields: list("x")}},
		{"# @missing: 0000..10FFFF; L # all", api.Line{Kind: api.LineMissing, Fields: list("0000..10FFFF", "L"), Note: "all"}},
		{"#@missing:x", api.Line{Kind: api.LineMissing, Fields: list("x")}},
		{" \t#\t @missing:\tx\t", api.Line{Kind: api.LineMissing, Fields: list("x")}},
		{"# @missing:", api.Line{Kind: api.LineMissing}},
		{"# @missing: # n", api.Line{Kind: api.LineMissing, Note: "n"}},
		{"# @missing:#@missing:#x", api.Line{Kind: api.LineMissing, Note: "@missing:#x"}},
		{"# @missing: ;", api.Line{Kind: api.LineMissing, Fields: list("", "")}},
		{"# @missing: @x: y; z", api.Line{Kind: api.LineMissing, Fields: list("@x: y", "z")}},
		{"# @missing: @", api.Line{Kind: api.LineMissing, Fields: list("@")}},
		{"# @missing: @missing: x", api.Line{Kind: api.LineMissing, Fields: list("@missing: x")}},
		{"# @missing", api.Line{Note: "@missing"}},
		{"# @missing : x", api.Line{Note: "@missing : x"}},
		{"# @missing#: x", api.Line{Note: "@missing#: x"}},
		{"# @Missing: x", api.Line{Note: "@Missing: x"}},
		{"# a @missing: x", api.Line{Note: "a @missing: x"}},
		{"## @missing: x", api.Line{Note: "# @missing: x"}},
		{"x # @missing: y", api.Line{Kind: api.LineData, Fields: list("x"), Note: "@missing: y"}},
		{"; # @missing: y", api.Line{Kind: api.LineData, Fields: list("", ""), Note: "@missing: y"}},
		{"@x: # @missing: y", api.Line{Kind: api.LineOrder, Name: "x", Note: "@missing: y"}},
	} {
		for _, no := range []int{1, 0, -1, 7, math.MinInt, math.MaxInt} {
			c.want.No = no
			if got, why := lines.Scan(no, c.line); why != api.OK || !isSame(got, c.want) {
				t.Errorf("Scan of %q = %v, %d", c.line, got, why)
			}
		}
	}
}

// P3.4: lines that are refused, and that nothing is told beside the error.
func TestScanRefuses(t *testing.T) {
	for _, c := range []struct {
		line string
		why  api.Errno
	}{
		{"@", api.ErrOrder},
		{" @ ", api.ErrOrder},
		{"@Levels", api.ErrOrder},
		{"@: x", api.ErrOrder},
		{"@:", api.ErrOrder},
		{"@@:", api.ErrOrder},
		{"@#", api.ErrOrder},
		{"@a#: b", api.ErrOrder},
		{"@a # b: c", api.ErrOrder},
		{"@a; b", api.ErrOrder},
		{"@a;b: c", api.ErrOrder},
		{"@ a: b", api.ErrOrder},
		{"@a : b", api.ErrOrder},
		{"@a\t: b", api.ErrOrder},
		{"@a b: c", api.ErrOrder},
		{"@é: x", api.ErrOrder},
		{"@a.b: x", api.ErrOrder},
		{"@\uff21: x", api.ErrOrder},
		{"@missing", api.ErrOrder},
		{"a\xff", api.ErrBytes},
		{"@\xff", api.ErrBytes},
		{"@a: b # \xff", api.ErrBytes},
		{"@\x01", api.ErrControl},
		{"a\rb", api.ErrControl},
		{"a\n", api.ErrControl},
		{"# @missing: \x7f", api.ErrControl},
		{"@" + strings.Repeat("a", api.MaxLine), api.ErrWide},
		{strings.Repeat("a", api.MaxLine) + "\xff", api.ErrWide},
	} {
		if got, why := lines.Scan(7, c.line); why != c.why || !reflect.DeepEqual(got, api.Line{}) {
			t.Errorf("Scan of %.20q = %v, %d", c.line, got, why)
		}
	}
}

// P3.4: each sign that a name may have, and each that it may not.
func TestNames(t *testing.T) {
	const may = "ABCDEFGHIJKLMNOPQRSTUVWXYZabcdefghijklmnopqrstuvwxyz0123456789_-"
	for r := rune(' '); r < 0x180; r++ {
		if r == 0x7F || r == ':' {
			continue
		}
		for _, name := range []string{string(r), "a" + string(r), string(r) + "a"} {
			want := api.OK
			if !strings.ContainsRune(may, r) {
				want = api.ErrOrder
			}
			got, why := lines.Scan(1, "@"+name+": x")
			if why != want || why == api.OK && got.Name != name {
				t.Errorf("Scan with the name %q = %v, %d", name, got, why)
			}
		}
	}
}

// P3.4: lines of all signs that mean something.
func TestScanOfAll(t *testing.T) {
	for line := range trial.Joined(signs, 5) {
		want, wantWhy := scanOf(3, line)
		if got, why := lines.Scan(3, line); why != wantWhy || !isSame(got, want) {
			t.Fatalf("Scan of %q = %v, %d, not %v, %d", line, got, why, want, wantWhy)
		}
	}
	for line := range trial.Texts() {
		want, wantWhy := scanOf(-3, line)
		if got, why := lines.Scan(-3, line); why != wantWhy || !isSame(got, want) {
			t.Fatalf("Scan of %q = %v, %d, not %v, %d", line, got, why, want, wantWhy)
		}
	}
}

// P3.4: lines as long as they may be.
func TestScanOfLongLines(t *testing.T) {
	for _, c := range []struct{ ahead, piece, behind string }{
		{"", "a", ""}, {"@x:", "é", ""}, {"#", "\u20ac", ""}, {"", " ", "a"}, {"", ";", ""}, {"#@missing:", ";", "#"}, {"@", "n", ":"},
	} {
		least := api.MaxLine - len(c.ahead) - len(c.behind)
		for _, more := range []int{-1, 0, 1} {
			line := c.ahead + strings.Repeat(c.piece, least+more) + c.behind
			want, wantWhy := scanOf(1, line)
			if got, why := lines.Scan(1, line); why != wantWhy || (why == api.ErrWide) != (more > 0) || !isSame(got, want) {
				t.Errorf("Scan of %q, %d times %q, %q: %d, not %d", c.ahead, least+more, c.piece, c.behind, why, wantWhy)
			}
		}
	}
}

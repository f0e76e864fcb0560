package lines_test

import (
	"reflect"
	"slices"
	"strings"
	"testing"

	"furrow/api"
	"furrow/lines"
	"furrow/trial"
)

// P0.1, P3.1: an iterator that is left early and gone over again.
func TestEachLeftEarly(t *testing.T) {
	for _, text := range []string{
		mark + "a\r\n\nb\n\rc\xff\n\n", "\n\n\n\n", "a\nb\nc\nd", "a\nb\nc\nd\n",
	} {
		if wrong := trial.LeaveEarly(lines.Each(text)); wrong != "" {
			t.Errorf("Each of %q: %s", text, wrong)
		}
	}
}

// P0.1: what is handed in is not changed, spare room included, and not kept.
func TestPrintLeavesItsFields(t *testing.T) {
	for kind := range api.LineKind(5) {
		fields := list("a", "b", " c", "d")
		before := slices.Clone(fields)
		for _, size := range []int{0, 1, 2, 3} {
			l := api.Line{No: 1, Kind: kind, Name: "x", Fields: fields[:size], Note: "n"}
			lines.Print(l)
			l.Name = ""
			lines.Print(l)
			if !slices.Equal(fields, before) {
				t.Fatalf("changed to %q", fields)
			}
		}
	}
}

// P0.1: an answer is new memory.
func TestAnswersAreNew(t *testing.T) {
	const line = "a; b; c # n"
	one, _ := lines.Cut(line)
	two, _ := lines.Cut(line)
	clear(one[:cap(one)])
	if !slices.Equal(two, list("a", "b", "c")) {
		t.Errorf("Cut: %q", two)
	}
	for _, line := range []string{line, "@x: " + line, "# @missing: " + line} {
		one, _ := lines.Scan(1, line)
		two, _ := lines.Scan(1, line)
		clear(one.Fields[:cap(one.Fields)])
		if !slices.Equal(two.Fields, list("a", "b", "c")) {
			t.Errorf("Scan of %q: %q", line, two.Fields)
		}
	}
}

// P0.1: no two lists of what Read answers share any memory.
func TestReadAnswersAreNew(t *testing.T) {
	const text = "a; b\nc; d; e\n@x: f\n# @missing: g; h\n"
	want, _ := lines.Read("f", text)
	again, _ := lines.Read("f", text)
	for i := range again {
		got, _ := lines.Read("f", text)
		fields := got[i].Fields
		clear(fields[:cap(fields)])
		for k := range got {
			if k != i && !reflect.DeepEqual(got[k], want[k]) {
				t.Errorf("the line %d became %v", k+1, got[k])
			}
		}
		clear(got[:cap(got)])
	}
	if !reflect.DeepEqual(again, want) {
		t.Errorf("became %v", again)
	}
}

// P0.1: what a call answers hangs on its arguments alone, and every call ends; also with many lines, fields and blanks.
func TestLongTexts(t *testing.T) {
	const many = 1 << 17
	count := 0
	for no := range lines.Each(strings.Repeat("a\r\n", many)) {
		if count++; no != count {
			t.Fatalf("the line %d has the number %d", count, no)
		}
	}
	if count != many {
		t.Errorf("%d lines", count)
	}
	if read, err := lines.Read("f", strings.Repeat("a;b\n", many)); err != nil || len(read) != many || read[many-1].No != many {
		t.Errorf("Read: %d lines, %v", len(read), err)
	}
	if fields, note := lines.Cut(strings.Repeat(" a ;", many) + "#" + strings.Repeat(" #", many)); len(fields) != many+1 || fields[many-1] != "a" || len(note) != 2*many-1 {
		t.Errorf("Cut: %d fields, a note of %d", len(fields), len(note))
	}
	if wrote, why := lines.Print(api.Line{Kind: api.LineData, Fields: make([]string, many)}); wrote != "" || why != api.ErrLine {
		t.Errorf("Print: %d", why)
	}
}

package classes_test

import (
	"errors"
	"fmt"
	"iter"
	"regexp"
	"slices"
	"strconv"
	"strings"
	"testing"

	"furrow/api"
	"furrow/classes"
	"furrow/trial"
)

const mark = "\uFEFF"

// example is the file F of the chapter.
const example = "# @missing: 0000..10FFFF; Left_To_Right\n# @missing: 0590..05FF; R\n\n0030..0039 ; EN # digits\n05D0 ; Right To Left\n"

type pair = trial.Pair[api.Range, api.Class]

// said is what a line says: a model of the file that knows nothing of the layers.
type said struct {
	no      int
	missing bool
	lo, hi  rune
	class   api.Class
}

var sayingForm = regexp.MustCompile(`^[ \t]*(#[ \t]*@missing:)?[ \t]*([0-9A-F]{4,6})(?:\.\.([0-9A-F]{4,6}))?[ \t]*;([^;#]*)(?:#.*)?$`)

// shortNames and longNames are the classes' names, in their order.
var shortNames = strings.Fields("L R AL EN ES ET AN CS NSM BN B S WS ON LRE LRO RLE RLO PDF LRI RLI FSI PDI")

var longNames = strings.Fields("Left_To_Right Right_To_Left Arabic_Letter European_Number European_Separator European_Terminator Arabic_Number Common_Separator Nonspacing_Mark Boundary_Neutral Paragraph_Separator Segment_Separator White_Space Other_Neutral Left_To_Right_Embedding Left_To_Right_Override Right_To_Left_Embedding Right_To_Left_Override Pop_Directional_Format Left_To_Right_Isolate Right_To_Left_Isolate First_Strong_Isolate Pop_Directional_Isolate")

// classNamed is the class of that name, 0 if it is none.
func classNamed(name string) api.Class {
	plain := func(s string) string {
		return strings.ToLower(strings.NewReplacer(" ", "", "\t", "", "_", "", "-", "").Replace(s))
	}
	for i := range shortNames {
		if plain(name) == plain(shortNames[i]) || plain(name) == plain(longNames[i]) {
			return api.Class(i + 1)
		}
	}
	return 0
}

func number(digits string) rune {
	n, _ := strconv.ParseInt(digits, 16, 32)
	return rune(n)
}

// sayings is what the lines of a text that can be read say.
func sayings(text string) []said {
	var out []said
	for i, line := range strings.Split(strings.TrimPrefix(text, mark), "\n") {
		m := sayingForm.FindStringSubmatch(strings.TrimSuffix(line, "\r"))
		if m == nil {
			continue
		}
		s := said{no: i + 1, missing: m[1] != "", lo: number(m[2]), hi: number(m[2]), class: classNamed(m[4])}
		if m[3] != "" {
			s.hi = number(m[3])
		}
		out = append(out, s)
	}
	return out
}

// givenOf is the class and the number of the line that names r; 0 and 0, if none does.
func givenOf(list []said, r rune) (api.Class, int) {
	if r < 0 || r > 0x10FFFF {
		r = 0xFFFD
	}
	for _, s := range list {
		if !s.missing && s.lo <= r && r <= s.hi {
			return s.class, s.no
		}
	}
	return 0, 0
}

// classOf is the class of r, by a plain look through the lines.
func classOf(list []said, r rune) api.Class {
	if class, no := givenOf(list, r); no != 0 {
		return class
	}
	if r < 0 || r > 0x10FFFF {
		r = 0xFFFD
	}
	class := api.L
	for _, s := range list {
		if s.missing && s.lo <= r && r <= s.hi {
			class = s.class
		}
	}
	return class
}

// edgesOf is the code points at which something may change, rising, from 0 up to the number behind the last one.
func edgesOf(list []said) []rune {
	edges := []rune{0, 0x110000}
	for _, s := range list {
		edges = append(edges, s.lo, s.hi+1)
	}
	slices.Sort(edges)
	return slices.Compact(edges)
}

// rangesOf is the greatest ranges of one class; 0 is none.
func rangesOf(list []said, class func(rune) api.Class) []pair {
	var out []pair
	edges := edgesOf(list)
	for i, from := range edges[:len(edges)-1] {
		c := class(from)
		if c == 0 {
			continue
		}
		if n := len(out); n > 0 && out[n-1].B == c && out[n-1].A.Hi == from-1 {
			out[n-1].A.Hi = edges[i+1] - 1
			continue
		}
		out = append(out, pair{A: api.Range{Lo: from, Hi: edges[i+1] - 1}, B: c})
	}
	return out
}

func wholeOf(list []said) []pair {
	return rangesOf(list, func(r rune) api.Class { return classOf(list, r) })
}

func namedOf(list []said) []pair {
	return rangesOf(list, func(r rune) api.Class {
		class, _ := givenOf(list, r)
		return class
	})
}

func missingOf(list []said) []api.Missing {
	var out []api.Missing
	for _, s := range list {
		if s.missing {
			out = append(out, api.Missing{Range: api.Range{Lo: s.lo, Hi: s.hi}, Class: s.class})
		}
	}
	return out
}

func spanOf(lo, hi rune) string {
	if lo == hi {
		return fmt.Sprintf("%04X", lo)
	}
	return fmt.Sprintf("%04X..%04X", lo, hi)
}

func writtenOf(list []said) string {
	out := ""
	for _, m := range missingOf(list) {
		out += "# @missing: " + spanOf(m.Lo, m.Hi) + "; " + longNames[m.Class-1] + "\n"
	}
	for _, p := range namedOf(list) {
		out += spanOf(p.A.Lo, p.A.Hi) + "; " + shortNames[p.B-1] + "\n"
	}
	return out
}

// text is the lines, an end between two.
func text(lines ...string) string { return strings.Join(lines, "\n") }

// tableOf is the table of a text that can be read.
func tableOf(t *testing.T, text string) *classes.Table {
	t.Helper()
	table, err := classes.Read("f", text)
	if err != nil || table == nil {
		t.Fatalf("Read of %q = %v, %v", text, table, err)
	}
	return table
}

// isRefused holds Read of text against that fault.
func isRefused(t *testing.T, file, text string, line int, why api.Errno) {
	t.Helper()
	table, err := classes.Read(file, text)
	var f *api.Fault
	if table != nil || !errors.As(err, &f) || *f != (api.Fault{File: file, Line: line, Code: why}) || !errors.Is(err, why) {
		t.Fatalf("Read of %q = %v, %v, not the line %d: %d", text, table, err, line, why)
	}
}

// isTold holds a walk against what it must tell.
func isTold(t *testing.T, what string, got iter.Seq2[api.Range, api.Class], want ...pair) {
	t.Helper()
	if told := trial.Collect(got); !slices.Equal(told, want) {
		t.Fatalf("%s tells %X, not %X", what, told, want)
	}
}

// isAt holds what the table says of r against a look through the lines.
func isAt(t *testing.T, text string, table *classes.Table, list []said, r rune) {
	t.Helper()
	given, no := givenOf(list, r)
	if got := table.Class(r); got != classOf(list, r) {
		t.Fatalf("%q: Class of %X = %d, not %d", text, r, got, classOf(list, r))
	}
	if got, is := table.Given(r); got != given || is != (no != 0) {
		t.Fatalf("%q: Given of %X = %d, %v, not %d", text, r, got, is, given)
	}
	if got := table.Line(r); got != no {
		t.Fatalf("%q: Line of %X = %d, not %d", text, r, got, no)
	}
}

// isSaid holds all that the table of text tells against a look through the lines, at each edge and beside it.
func isSaid(t *testing.T, text string) {
	t.Helper()
	table, list := tableOf(t, text), sayings(text)
	for _, edge := range append(edgesOf(list), 0xD800, 0xFFFD) {
		for r := edge - 1; r <= edge+1; r++ {
			isAt(t, text, table, list, r)
		}
	}
	isTold(t, "Named of "+text, table.Named(), namedOf(list)...)
	isTold(t, "Whole of "+text, table.Whole(), wholeOf(list)...)
	if got := table.Missing(); !slices.Equal(got, missingOf(list)) {
		t.Fatalf("%q: Missing = %X", text, got)
	}
	if got := table.Write(); got != writtenOf(list) {
		t.Fatalf("%q: Write = %q", text, got)
	}
}

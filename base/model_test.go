package base_test

import (
	"errors"
	"fmt"
	"math"
	"slices"
	"strconv"
	"strings"
	"testing"

	"furrow/api"
	"furrow/base"
	"furrow/brackets"
	"furrow/classes"
	"furrow/mirrors"
	"furrow/rows"
	"furrow/trial"
	"furrow/words"
)

const (
	beyond = api.MaxRune + 1
	mark   = "\uFEFF"
)

type (
	ranged = trial.Pair[api.Range, api.Class]
	marked = trial.Pair[rune, api.Point]
)

// small is the files D of the chapter.
func small() api.Files {
	return api.Files{
		Rows:     text("0028;A;Ps;0;ON;;;;;Y;;;;;", "0029;B;Pe;0;ON;;;;;Y;;;;;", "0041;C;Lu;0;L;;;;;N;;;;;"),
		Classes:  text("0028..0029; ON"),
		Brackets: text("0028; 0029; o", "0029; 0028; c"),
		Mirrors:  text("0028; 0029", "0029; 0028"),
	}
}

// text is the lines, an end behind each.
func text(lines ...string) string {
	if len(lines) == 0 {
		return ""
	}
	return strings.Join(lines, "\n") + "\n"
}

// line is a row's line: its number, class, twin (none: empty) and flag.
func line(point, class, twin, flag string) string {
	return point + ";N" + point + ";Ps;0;" + class + ";" + twin + ";;;;" + flag + ";;;;;"
}

// halves is the two lines of a row from one number to another.
func halves(first, last, class, twin, flag string) string {
	half := func(point, end string) string {
		return point + ";<N" + first + ", " + end + ">;Ps;0;" + class + ";" + twin + ";;;;" + flag + ";;;;;"
	}
	return half(first, "First") + "\n" + half(last, "Last")
}

// spoken is the fields of each line that says something, by a plain look at its bytes; missing is of the lines that say what the rest has.
func spoken(text string, missing bool) [][]string {
	var out [][]string
	for _, line := range strings.Split(strings.TrimPrefix(text, mark), "\n") {
		rest, isNote := strings.CutPrefix(strings.TrimSpace(line), "#")
		if isNote {
			after, is := strings.CutPrefix(strings.TrimSpace(rest), "@missing:")
			if !is || !missing {
				continue
			}
			rest = after
		} else if missing {
			continue
		}
		rest, _, _ = strings.Cut(rest, "#")
		if strings.TrimSpace(rest) == "" {
			continue
		}
		fields := strings.Split(rest, ";")
		for i := range fields {
			fields[i] = strings.TrimSpace(fields[i])
		}
		out = append(out, fields)
	}
	return out
}

func number(digits string) rune {
	n, err := strconv.ParseInt(digits, 16, 32)
	if err != nil {
		return -1
	}
	return rune(n)
}

func counted(r rune) rune {
	if r < 0 || r > 0x10FFFF {
		return 0xFFFD
	}
	return r
}

// endsOf is the two ends of a field that tells a range.
func endsOf(field string) (lo, hi rune) {
	first, second, two := strings.Cut(field, "..")
	if !two {
		second = first
	}
	return number(first), number(second)
}

// classOf is the class of r, by the lines.
func classOf(f api.Files, r rune) api.Class {
	class := api.L
	for _, missing := range []bool{true, false} { // what names a number holds ahead of what is said of the rest
		for _, fields := range spoken(f.Classes, missing) {
			if lo, hi := endsOf(fields[0]); lo <= r && r <= hi {
				class, _ = words.Class(fields[1])
			}
		}
	}
	return class
}

// rowTwinOf is the twin that the rows say of r, be it a bracket or not; 0, if they say none.
func rowTwinOf(f api.Files, r rune) rune {
	var from rune
	for _, fields := range spoken(f.Rows, false) {
		point := number(fields[0])
		if strings.HasSuffix(fields[1], ", First>") {
			from = point
			continue
		}
		if !strings.HasSuffix(fields[1], ", Last>") {
			from = point
		}
		if from <= r && r <= point && !strings.ContainsAny(fields[5], " <") {
			return max(0, number(fields[5]))
		}
	}
	return 0
}

// pointOf is the point of r, by a look through all lines of files that are a database.
func pointOf(f api.Files, r rune) api.Point {
	r = counted(r)
	p := api.Point{Class: classOf(f, r), Twin: r, Mirror: r}
	for _, fields := range spoken(f.Brackets, false) {
		if number(fields[0]) != r {
			continue
		}
		p.Other = number(fields[1])
		p.Side, _ = words.Side(fields[2])
		if twin := rowTwinOf(f, r); twin != 0 {
			p.Twin = twin
		}
	}
	for _, fields := range spoken(f.Mirrors, false) {
		if number(fields[0]) == r {
			p.Mirror, p.Turns = number(fields[1]), true
		}
	}
	return p
}

// faultOf is the fault that Compile must answer, word by word of P10.1; nil, if there is none.
func faultOf(f api.Files) *api.Fault {
	var fault *api.Fault
	list, err := rows.Read("rows", f.Rows)
	if errors.As(err, &fault) {
		return fault
	}
	table, err := classes.Read("classes", f.Classes)
	if errors.As(err, &fault) {
		return fault
	}
	book, err := brackets.Parse("brackets", f.Brackets)
	if errors.As(err, &fault) {
		return fault
	}
	turns, err := mirrors.Read("mirrors", f.Mirrors)
	if errors.As(err, &fault) {
		return fault
	}
	for _, row := range list {
		for r := row.First; r <= row.Last; r++ {
			if table.Class(r) != row.Class {
				return &api.Fault{File: "rows", Line: row.Line, Code: api.ErrUnlike}
			}
		}
	}
	for i, line := range strings.Split(strings.TrimPrefix(f.Brackets, mark), "\n") {
		for _, fields := range spoken(line, false) {
			if table.Class(number(fields[0])) != api.ON {
				return &api.Fault{File: "brackets", Line: i + 1, Code: api.ErrUnlike}
			}
		}
	}
	var ats []rune
	for _, fields := range spoken(f.Brackets, false) {
		ats = append(ats, number(fields[0]))
	}
	slices.Sort(ats)
	var twins []api.Twin
	for _, r := range ats {
		if row, is := rows.Find(list, r); is && row.Twin != 0 {
			twins = append(twins, api.Twin{At: r, As: row.Twin})
		}
	}
	if _, place, why := book.Twins(twins...); why != api.OK {
		row, _ := rows.Find(list, twins[place].At)
		return &api.Fault{File: "rows", Line: row.Line, Code: api.ErrTwin}
	}
	for _, m := range turns {
		if row, is := rows.Find(list, m.From); !is || !row.Mirrored {
			return &api.Fault{File: "mirrors", Line: m.Line, Code: api.ErrUnlike}
		}
	}
	return nil
}

// edgesOf is the code points at which a class may change, rising, from 0 up to the number behind the last one.
func edgesOf(f api.Files) []rune {
	edges := []rune{0, beyond}
	for _, missing := range []bool{false, true} {
		for _, fields := range spoken(f.Classes, missing) {
			lo, hi := endsOf(fields[0])
			edges = append(edges, lo, hi+1)
		}
	}
	slices.Sort(edges)
	return slices.Compact(edges)
}

// namedIn is the code points that the files name in their first two fields, or as a twin.
func namedIn(f api.Files) []rune {
	var out []rune
	for _, fields := range slices.Concat(spoken(f.Brackets, false), spoken(f.Mirrors, false)) {
		out = append(out, number(fields[0]), number(fields[1]))
	}
	for _, fields := range spoken(f.Rows, false) {
		out = append(out, number(fields[0]), max(0, number(fields[5])))
	}
	slices.Sort(out)
	return slices.Compact(out)
}

// numbersOf is numbers to ask: the ends of all stretches, what the files name, what lies beside them, and edges.
func numbersOf(f api.Files) []rune {
	out := []rune{math.MinInt32, -2, 0xD800, 0xDFFF, 0xFFFC, 0xFFFD, 0xFFFE, beyond + 1, math.MaxInt32}
	for _, r := range slices.Concat(edgesOf(f), namedIn(f)) {
		out = append(out, r-1, r, r+1)
	}
	slices.Sort(out)
	return slices.Compact(out)
}

// classesOf is what Classes must tell.
func classesOf(f api.Files) []ranged {
	var out []ranged
	edges := edgesOf(f)
	for i, lo := range edges[:len(edges)-1] {
		class := classOf(f, lo)
		if n := len(out); n > 0 && out[n-1].B == class {
			out[n-1].A.Hi = edges[i+1] - 1
			continue
		}
		out = append(out, ranged{A: api.Range{Lo: lo, Hi: edges[i+1] - 1}, B: class})
	}
	return out
}

// pointsOf is what Points must tell.
func pointsOf(f api.Files) []marked {
	var out []marked
	for _, r := range namedIn(f) {
		if p := pointOf(f, r); p.Side != api.None || p.Turns {
			out = append(out, marked{A: r, B: p})
		}
	}
	return out
}

// filesOf is what Files must answer.
func filesOf(t *testing.T, f api.Files) api.Files {
	t.Helper()
	list, _ := rows.Read("", f.Rows)
	table, _ := classes.Read("", f.Classes)
	book, _ := brackets.Parse("", f.Brackets)
	turns, _ := mirrors.Read("", f.Mirrors)
	characters, why := rows.Print(list...)
	turned, whyToo := mirrors.Print(turns...)
	if why != api.OK || whyToo != api.OK {
		t.Fatalf("%+v can't be printed: %d, %d", f, why, whyToo)
	}
	return api.Files{Rows: characters, Classes: table.Write(), Brackets: book.Write(), Mirrors: turned}
}

// compiled is the base of files that are a database.
func compiled(t *testing.T, f api.Files) *base.Base {
	t.Helper()
	b, err := base.Compile(f)
	if b == nil || err != nil {
		t.Fatalf("Compile of %+v = %v, %v", f, b, err)
	}
	return b
}

// isFault holds Compile and Naive of f against that fault, and nothing beside it.
func isFault(t *testing.T, f api.Files, file string, line int, why api.Errno) {
	t.Helper()
	want := api.Fault{File: file, Line: line, Code: why}
	b, err := base.Compile(f)
	if got, is := err.(*api.Fault); b != nil || !is || *got != want || !errors.Is(err, why) {
		t.Fatalf("Compile of %+v = %v, %v, not %v", f, b, err, &want)
	}
	for _, r := range []rune{0x28, 0x41, 0, -1, beyond} {
		p, err := base.Naive(f, r)
		if got, is := err.(*api.Fault); p != (api.Point{}) || !is || *got != want {
			t.Fatalf("Naive of %+v = %v, %v, not %v", f, p, err, &want)
		}
	}
}

// isPoint holds the look-ups of b at r against its point.
func isPoint(t *testing.T, b *base.Base, r rune, want api.Point) {
	t.Helper()
	if got := b.Point(r); got != want {
		t.Fatalf("Point of %X = %+v, not %+v", r, got, want)
	}
	other, side := b.Bracket(r)
	to, turns := b.Mirror(r)
	if got := (api.Point{Class: b.Class(r), Other: other, Side: side, Twin: b.Twin(r), Mirror: to, Turns: turns}); got != want {
		t.Fatalf("%X has %+v by its parts, not %+v", r, got, want)
	}
}

// mayBe holds what b tells at r against DOC.md's words of props that may be.
func mayBe(t *testing.T, b api.Props, r rune) {
	t.Helper()
	other, side := b.Bracket(r)
	if side == api.None {
		if other != 0 || b.Twin(r) != r {
			t.Fatalf("%X is no bracket, but has %X and the twin %X", r, other, b.Twin(r))
		}
		return
	}
	back, otherSide := b.Bracket(other)
	if back != r || otherSide != 3-side || b.Class(r) != api.ON {
		t.Fatalf("%X leads to %X, and that to %X; its class is %d", r, other, back, b.Class(r))
	}
	twin := b.Twin(r)
	twinOther, twinSide := b.Bracket(twin)
	if twinSide != side || b.Twin(twin) != twin || twinOther != b.Twin(other) {
		t.Fatalf("%X has the twin %X, and its other one %X", r, twin, b.Twin(other))
	}
}

// isBase holds all that is told of files that are a database against a look through their lines; so what Naive tells, and what is compiled of Files.
func isBase(t *testing.T, f api.Files) {
	t.Helper()
	b := compiled(t, f)
	wrote := b.Files()
	if want := filesOf(t, f); wrote != want {
		t.Fatalf("Files of %+v = %+v, not %+v", f, wrote, want)
	}
	again := compiled(t, wrote)
	if got := again.Files(); got != wrote {
		t.Fatalf("Files of %+v = %+v", wrote, got)
	}
	for _, r := range numbersOf(f) {
		want := pointOf(f, r)
		isPoint(t, b, r, want)
		isPoint(t, again, r, want)
		if got, err := base.Naive(f, r); got != want || err != nil {
			t.Fatalf("Naive of %X by %+v = %+v, %v, not %+v", r, f, got, err, want)
		}
		if r == counted(r) {
			mayBe(t, b, r)
		}
	}
	isTold(t, b, classesOf(f), pointsOf(f))
	isTold(t, again, classesOf(f), pointsOf(f))
}

// isTold holds the two walks of b against what they must tell.
func isTold(t *testing.T, b *base.Base, ranges []ranged, points []marked) {
	t.Helper()
	if got := trial.Collect(b.Classes()); !slices.Equal(got, ranges) {
		t.Fatalf("Classes tells %X, not %X", got, ranges)
	}
	if got := trial.Collect(b.Points()); !slices.Equal(got, points) {
		t.Fatalf("Points tells %+v, not %+v", got, points)
	}
}

// isEither holds all of f against the words, be it a database or not, and tells which fault it has; OK, if none.
func isEither(t *testing.T, f api.Files) api.Fault {
	t.Helper()
	if fault := faultOf(f); fault != nil {
		isFault(t, f, fault.File, fault.Line, fault.Code)
		return *fault
	}
	isBase(t, f)
	return api.Fault{}
}

// linesOf is the lines of a text whose last one has an end.
func linesOf(text string) []string {
	if text == "" {
		return nil
	}
	return strings.Split(strings.TrimSuffix(text, "\n"), "\n")
}

// fileOf is the file of f that a fault calls by that name.
func fileOf(f *api.Files, name string) *string {
	switch name {
	case "rows":
		return &f.Rows
	case "classes":
		return &f.Classes
	case "brackets":
		return &f.Brackets
	case "mirrors":
		return &f.Mirrors
	}
	panic("no file " + name)
}

func names() []string { return []string{"rows", "classes", "brackets", "mirrors"} }

func digits(r rune) string { return fmt.Sprintf("%04X", r) }

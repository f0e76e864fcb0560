package base_test

import (
	"fmt"
	"iter"
	"strings"
	"testing"

	"furrow/api"
	"furrow/base"
	"furrow/trial"
)

// P0.1, P10.3: two walks at once, of one base and of two.
func TestWalksAtOnce(t *testing.T) {
	b, other := compiled(t, edgy()), compiled(t, small())
	all, others := trial.Collect(b.Points()), trial.Collect(other.Points())
	next, stop := iter.Pull2(b.Points())
	nextToo, stopToo := iter.Pull2(b.Points())
	nextOther, stopOther := iter.Pull2(other.Points())
	defer stop()
	defer stopToo()
	defer stopOther()
	next()
	for i := range len(all) + 1 {
		for _, c := range []struct {
			next func() (rune, api.Point, bool)
			want []marked
			at   int
		}{{next, all, i + 1}, {nextToo, all, i}, {nextOther, others, i}} {
			r, p, more := c.next()
			if more != (c.at < len(c.want)) || more && c.want[c.at] != (marked{A: r, B: p}) {
				t.Fatalf("%X, %+v, %v at %d", r, p, more, c.at)
			}
		}
	}
}

// P0.1: what a base tells hangs on its own files, whatever else is compiled, and is the same each time.
func TestBasesAreApart(t *testing.T) {
	b := compiled(t, edgy())
	wrote := b.Files()
	for _, f := range []api.Files{{}, small(), {Rows: "x"}, {Classes: "0000..10FFFF; R"}, edgy()} {
		base.Compile(f)
		base.Naive(f, 0)
		trial.Collect(b.Points())
		if b.Files() != wrote {
			t.Fatalf("Files = %+v", b.Files())
		}
		isTold(t, b, classesOf(edgy()), pointsOf(edgy()))
	}
}

// P0.1: a fault that was answered and is changed changes no later one.
func TestFaultsAreNew(t *testing.T) {
	for _, f := range []api.Files{{Rows: "x"}, {Classes: "x"}, {Brackets: "x"}, {Mirrors: "x"}, {Rows: small().Rows}, {Brackets: small().Brackets}, {Mirrors: small().Mirrors}} {
		want := *faultOf(f)
		_, err := base.Compile(f)
		*err.(*api.Fault) = api.Fault{}
		_, err = base.Naive(f, 0)
		*err.(*api.Fault) = api.Fault{}
		isFault(t, f, want.File, want.Line, want.Code)
	}
}

// P0.1: calls end with any bytes in the place of each file, and beside right ones.
func TestAnyBytes(t *testing.T) {
	i := 0
	for s := range trial.Texts() {
		f := small()
		*fileOf(&f, names()[i%4]) = s
		i++
		isEndedAs(t, f)
	}
	for _, s := range trial.LongTexts() {
		for _, name := range names() {
			for _, f := range []api.Files{{}, small()} {
				*fileOf(&f, name) += s
				isEndedAs(t, f)
				*fileOf(&f, name) = strings.ToValidUTF8(s, "") + "\n# " + s
				isEndedAs(t, f)
			}
		}
	}
}

// isEndedAs holds Compile and Naive of f against the words, at one number alone.
func isEndedAs(t *testing.T, f api.Files) {
	t.Helper()
	want := faultOf(f)
	b, err := base.Compile(f)
	p, errToo := base.Naive(f, 0x28)
	if want == nil {
		if b == nil || err != nil || errToo != nil || p != b.Point(0x28) {
			t.Fatalf("%+v: %v, %v; %+v, %v", f, b, err, p, errToo)
		}
		return
	}
	got, is := err.(*api.Fault)
	gotToo, isToo := errToo.(*api.Fault)
	if b != nil || p != (api.Point{}) || !is || !isToo || *got != *want || *gotToo != *want {
		t.Fatalf("%+v: %v, %v; %+v, %v, not %v", f, b, err, p, errToo, want)
	}
}

// many is files with that many pairs of brackets from 0 on, each of which is a mirror, too, and has the pair 2 and 3 as its twins.
func many(pairs int) api.Files {
	var rows, brackets, mirrors strings.Builder
	for i := range pairs {
		one, other := digits(rune(2*i)), digits(rune(2*i+1))
		twin, otherTwin := "0002", "0003"
		if i == 1 {
			twin, otherTwin = "", ""
		}
		rows.WriteString(text(line(one, "ON", twin, "Y"), line(other, "ON", otherTwin, "Y")))
		fmt.Fprintf(&brackets, "%s; %s; c\n%s; %s; o\n", other, one, one, other)
		fmt.Fprintf(&mirrors, "%s; %s\n%s; %s\n", other, one, one, other)
	}
	return api.Files{Rows: rows.String(), Classes: text("# @missing: 0000..10FFFF; ON"), Brackets: brackets.String(), Mirrors: mirrors.String()}
}

// P0.1: files of many lines; the last ones are not passed over.
func TestManyLines(t *testing.T) {
	const pairs = 1 << 15
	f := many(pairs)
	b := compiled(t, f)
	last := rune(2*pairs - 1)
	isPoint(t, b, last, api.Point{Class: api.ON, Other: last - 1, Side: api.Closes, Twin: 3, Mirror: last - 1, Turns: true})
	isPoint(t, b, last+1, api.Point{Class: api.ON, Twin: last + 1, Mirror: last + 1})
	if got := trial.Collect(b.Points()); len(got) != 2*pairs || got[last].A != last {
		t.Errorf("Points tells %d", len(got))
	}
	if wrote := b.Files(); wrote.Rows != f.Rows || wrote.Mirrors != f.Mirrors || compiled(t, wrote).Files() != wrote {
		t.Error("Files are something else")
	}
	if p, err := base.Naive(f, last); p != b.Point(last) || err != nil {
		t.Errorf("Naive = %+v, %v", p, err)
	}
	for _, c := range []struct {
		name, ahead, now string
		file             string
		line             int
		why              api.Errno
	}{
		{"classes", "\n", "\n" + digits(last) + "; R\n", "rows", 2 * pairs, api.ErrUnlike},
		{"rows", line(digits(last), "ON", "0003", "Y"), "", "rows", 2*pairs - 1, api.ErrTwin},
		{"rows", line(digits(last), "ON", "0003", "Y"), line(digits(last), "ON", "0003", "N"), "mirrors", 2*pairs - 1, api.ErrUnlike},
	} {
		g := f
		*fileOf(&g, c.name) = strings.Replace(*fileOf(&f, c.name), c.ahead, c.now, 1)
		b, err := base.Compile(g)
		if got, is := err.(*api.Fault); b != nil || !is || *got != (api.Fault{File: c.file, Line: c.line, Code: c.why}) {
			t.Errorf("%v, not %s:%d", err, c.file, c.line)
		}
	}
}

// P0.1: many classes, as many rows over them, and one row over them all.
func TestManyClasses(t *testing.T) {
	const count = 1 << 15
	var classes, rows strings.Builder
	names := strings.Fields("R AL EN L")
	for i := range count {
		name := names[i%len(names)]
		fmt.Fprintf(&classes, "%04X..%04X; %s\n", 2*i, 2*i+1, name)
		rows.WriteString(text(halves(digits(rune(2*i)), digits(rune(2*i+1)), name, "", "N")))
	}
	f := api.Files{Rows: rows.String(), Classes: classes.String()}
	if got := trial.Collect(compiled(t, f).Classes()); len(got) != count { // the last one is L, and goes on
		t.Errorf("Classes tells %d", len(got))
	}
	f.Rows += text(halves(digits(2*count), "10FFFF", "R", "", "N"))
	isFault(t, f, "rows", 2*count+1, api.ErrUnlike)
	isFault(t, api.Files{Rows: text(halves("0000", "10FFFF", "R", "", "N")), Classes: f.Classes}, "rows", 1, api.ErrUnlike)
}

// The number that layer 10 owns.
func TestErrors(t *testing.T) {
	if api.ErrUnlike != 100 {
		t.Error(int(api.ErrUnlike))
	}
}

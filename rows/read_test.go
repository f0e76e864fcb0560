package rows_test

import (
	"errors"
	"fmt"
	"regexp"
	"slices"
	"strings"
	"testing"

	"furrow/api"
	"furrow/lines"
	"furrow/rows"
	"furrow/trial"
)

const mark = "\uFEFF"

var halfForm = regexp.MustCompile(`(?s)\A<(.+), (First|Last)>\z`)

// plainOf is the plain name of a half and First or Last; nothing of another name.
func plainOf(name string) (plain, which string) {
	m := halfForm.FindStringSubmatch(name)
	if m == nil {
		return "", ""
	}
	return m[1], m[2]
}

// lastOf is the row of a First, which first is, and of the line behind it; or why that is refused.
func lastOf(first api.Row, firstLine, l api.Line) (api.Row, api.Errno) {
	other, why := rows.Scan(l)
	if why != api.OK {
		return api.Row{}, why
	}
	plain, _ := plainOf(first.Name)
	if name, which := plainOf(other.Name); which != "Last" || name != plain {
		return api.Row{}, api.ErrName
	}
	if other.First <= first.First {
		return api.Row{}, api.ErrRising
	}
	for i := 2; i < 15; i++ {
		if l.Fields[i] != firstLine.Fields[i] {
			return api.Row{}, api.ErrPair
		}
	}
	first.Name, first.Last = plain, other.First
	return first, api.OK
}

// readOf is Read's answer, found by going from row to row: its rows, or the number of the line that is refused, and why.
func readOf(text string) ([]api.Row, int, api.Errno) {
	var f *api.Fault
	read, err := lines.Read("f", text)
	if errors.As(err, &f) {
		return nil, f.Line, f.Code
	}
	read = slices.DeleteFunc(read, func(l api.Line) bool { return l.Kind == api.LineBlank || l.Kind == api.LineMissing })
	var out []api.Row
	for len(read) > 0 {
		l := read[0]
		row, why := rows.Scan(l)
		if why != api.OK {
			return nil, l.No, why
		}
		_, which := plainOf(row.Name)
		if which == "Last" {
			return nil, l.No, api.ErrName
		}
		if len(out) > 0 && row.First <= out[len(out)-1].Last {
			return nil, l.No, api.ErrRising
		}
		read = read[1:]
		if which == "First" {
			if len(read) == 0 {
				return nil, l.No, api.ErrName
			}
			if row, why = lastOf(row, l, read[0]); why != api.OK {
				return nil, read[0].No, why
			}
			read = read[1:]
		}
		out = append(out, row)
	}
	return out, 0, api.OK
}

// isRead holds Read of text against those rows, or that fault.
func isRead(t *testing.T, file, text string, want []api.Row, line int, why api.Errno) {
	t.Helper()
	got, err := rows.Read(file, text)
	if why == api.OK {
		if err != nil || !slices.Equal(got, want) {
			t.Fatalf("Read of %q = %v, %v, not %v", text, got, err, want)
		}
		return
	}
	var f *api.Fault
	if len(got) != 0 || !errors.As(err, &f) || *f != (api.Fault{File: file, Line: line, Code: why}) || !errors.Is(err, why) {
		t.Fatalf("Read of %q = %v, %v, not the line %d: %d", text, got, err, line, why)
	}
}

// one is a line of that code point, name and class.
func one(point, name, class string) string {
	return point + ";" + name + ";Lo;0;" + class + ";;;;;N;;;;;"
}

func first(point, plain string) string { return one(point, "<"+plain+", First>", "L") }

func last(point, plain string) string { return one(point, "<"+plain+", Last>", "L") }

func text(lines ...string) string { return strings.Join(lines, "\n") }

// rowOf is the row of one, or of first and last.
func rowOf(line int, from, to rune, name string) api.Row {
	return api.Row{Line: line, First: from, Last: to, Name: name, Cat: "Lo", Class: api.L}
}

// P6.2: the chapter's examples, and texts with nothing in them.
func TestRead(t *testing.T) {
	f, l := first("3400", "Ideograph"), last("4DB5", "Ideograph")
	isRead(t, "f", text(f, l), []api.Row{rowOf(1, 0x3400, 0x4DB5, "Ideograph")}, 0, api.OK)
	isRead(t, "f", f, nil, 1, api.ErrName)
	isRead(t, "f", l, nil, 1, api.ErrName)
	isRead(t, "f", text(f, one("4DB5", "<Ideograph, Last>", "R")), nil, 2, api.ErrPair)
	isRead(t, "f", text(one("0042", "B", "L"), one("0041", "A", "L")), nil, 2, api.ErrRising)
	for _, nothing := range []string{"", "\n", mark, mark + "\r\n# n", "# @missing: x; y", " \t\n\n"} {
		isRead(t, "f", nothing, nil, 0, api.OK)
	}
}

// P6.2: all that a row has.
func TestReadRows(t *testing.T) {
	isRead(t, "f", mark+text(
		"# n", "0028 ; A\tB ;Ps ; 230;ON; 0300 ;;;;Y;;;;; # n", "", "# @missing: 0000; x", "0029;<control>;Pe;0;ON;0041 0300;x;y;z;N;a;b;c;d;e\r",
		"E000;<é€, First>;Co;9;AL;F900;;;;Y;;;;;", "# @missing:", "", "# n", "F8FF;<é€, Last>;Co;9;AL;F900;;;;Y;;;;;", "10FFFF;Z;Cn;254;PDI;<a> 0041;;;;N;;;;;"),
		[]api.Row{
			{Line: 2, First: 0x28, Last: 0x28, Name: "A\tB", Cat: "Ps", Comb: 230, Class: api.ON, Twin: 0x300, Mirrored: true},
			{Line: 5, First: 0x29, Last: 0x29, Name: "<control>", Cat: "Pe", Class: api.ON},
			{Line: 6, First: 0xE000, Last: 0xF8FF, Name: "é€", Cat: "Co", Comb: 9, Class: api.AL, Twin: 0xF900, Mirrored: true},
			{Line: 11, First: 0x10FFFF, Last: 0x10FFFF, Name: "Z", Cat: "Cn", Comb: 254, Class: api.PDI},
		}, 0, api.OK)
}

// P6.2: names that are halves, and such as look like them.
func TestReadHalfNames(t *testing.T) {
	for _, name := range []string{
		"<, First>", "<, Last>", "<First>", "<Last>", "<A, Second>", "<A, first>", "<A, LAST>", "<A,First>", "<A First>", "<A, First>>", "<A, First >", "<A, First", "A, First>", "A, Last>", ", First>", "<A, First>x", "x<A, First>", "<", ">", "<>", "<A>",
	} {
		isRead(t, "f", text(one("0041", name, "L"), one("0042", name, "L")), []api.Row{rowOf(1, 0x41, 0x41, name), rowOf(2, 0x42, 0x42, name)}, 0, api.OK)
	}
	for _, plain := range []string{"A", " ", " A ", "\t", "é", fffd, "<", ">", ",", ", ", "<A, First>", "<A, Last>", "A, First", "A, Last", ", First>", "<, First>", strings.Repeat("é", 247)} {
		isRead(t, "f", text(first("0041", plain), last("0043", plain)), []api.Row{rowOf(1, 0x41, 0x43, plain)}, 0, api.OK)
		isRead(t, "f", first("0041", plain), nil, 1, api.ErrName)
		isRead(t, "f", last("0041", plain), nil, 1, api.ErrName)
	}
	for _, size := range []int{248, 249} {
		isRead(t, "f", text(first("0041", strings.Repeat("é", size)), last("0043", strings.Repeat("é", size))), nil, 1, api.ErrName)
	}
	isRead(t, "f", text(first("0041", strings.Repeat("é", 247)), last("0043", strings.Repeat("é", 248))), nil, 2, api.ErrName)
}

// P6.2: a First and what may stand behind it.
func TestReadLast(t *testing.T) {
	f := first("0041", "A")
	for _, c := range []struct {
		behind []string
		line   int
		why    api.Errno
	}{
		{nil, 1, api.ErrName},
		{[]string{"", "# n", "# @missing: x"}, 1, api.ErrName},
		{[]string{last("0042", "A")}, 0, api.OK},
		{[]string{last("10FFFF", "A")}, 0, api.OK},
		{[]string{"", "# n", "# @missing: 0041; L", "\t", last("0042", "A")}, 0, api.OK},
		{[]string{last("0042", "B")}, 2, api.ErrName},
		{[]string{last("0042", "a")}, 2, api.ErrName},
		{[]string{last("0042", "A ")}, 2, api.ErrName},
		{[]string{last("0042", "")}, 2, api.ErrName},
		{[]string{first("0042", "A")}, 2, api.ErrName},
		{[]string{first("0041", "A")}, 2, api.ErrName},
		{[]string{one("0042", "A", "L")}, 2, api.ErrName},
		{[]string{one("0040", "A", "L")}, 2, api.ErrName},
		{[]string{"", one("0042", "A", "L"), last("0043", "A")}, 3, api.ErrName},
		{[]string{last("0041", "A")}, 2, api.ErrRising},
		{[]string{last("0040", "A")}, 2, api.ErrRising},
		{[]string{last("0000", "A")}, 2, api.ErrRising},
		{[]string{last("0041", "B")}, 2, api.ErrName},
		{[]string{one("0041", "<A, Last>", "R")}, 2, api.ErrRising},
		{[]string{one("0041", "<B, Last>", "R")}, 2, api.ErrName},
		{[]string{one("0042", "<B, Last>", "R")}, 2, api.ErrName},
		{[]string{one("0042", "<A, Last>", "R")}, 2, api.ErrPair},
		{[]string{one("0042", "<B, Last>", "X")}, 2, api.ErrNoClass},
		{[]string{"x"}, 2, api.ErrCells},
		{[]string{"", "@x: y"}, 3, api.ErrOrder},
		{[]string{last("42", "A")}, 2, api.ErrHex},
		{[]string{last("0042", "A"), last("0043", "A")}, 3, api.ErrName},
		{[]string{last("0042", "A"), one("0042", "A", "L")}, 3, api.ErrRising},
		{[]string{last("0042", "A"), first("0042", "A")}, 3, api.ErrRising},
		{[]string{last("0042", "A"), first("0043", "A")}, 3, api.ErrName},
	} {
		want := []api.Row{rowOf(1, 0x41, 0x42, "A")}
		if len(c.behind) > 0 && strings.HasPrefix(c.behind[0], "10FFFF") {
			want[0].Last = 0x10FFFF
		}
		isRead(t, "f", text(append([]string{f}, c.behind...)...), want, c.line, c.why)
	}
}

// P6.2: each field from 2 on must be the same text in both halves, though some say nothing of the row.
func TestReadPair(t *testing.T) {
	others := []string{"Lu", "1", "R", "0041", "x", "x", "x", "Y", "x", "x", "x", "x", "x"}
	for i, other := range others {
		f, l := strings.Split(first("0041", "A"), ";"), strings.Split(last("0043", "A"), ";")
		l[2+i] = other
		isRead(t, "f", text(strings.Join(f, ";"), strings.Join(l, ";")), nil, 2, api.ErrPair)
		f[2+i], l[2+i] = l[2+i], f[2+i]
		isRead(t, "f", text(strings.Join(f, ";"), strings.Join(l, ";")), nil, 2, api.ErrPair)
		l[2+i] = other
		want, _ := rows.Scan(api.Line{No: 1, Kind: api.LineData, Fields: f})
		want.Name, want.Last = "A", 0x43
		isRead(t, "f", text(strings.Join(f, " ; ")+"# n", strings.Join(l, "\t;")), []api.Row{want}, 0, api.OK)
	}
	for _, c := range [][2]string{{"0041 0300", "<a> 0041"}, {"", "0000"}, {"<a> 0041", "<b> 0041"}} { // the same twin, other texts
		f, l := strings.Split(first("0041", "A"), ";"), strings.Split(last("0043", "A"), ";")
		f[5], l[5] = c[0], c[1]
		isRead(t, "f", text(strings.Join(f, ";"), strings.Join(l, ";")), nil, 2, api.ErrPair)
	}
}

// P6.2: rows that do not rise; of two halves it is told at the First's line, ahead of all that the Last's line is asked.
func TestReadRising(t *testing.T) {
	row, f, l := one("0043", "A", "L"), first("0043", "A"), last("0045", "A")
	for _, ahead := range []string{row, text(first("0042", "B"), last("0043", "B"))} {
		n := strings.Count(ahead, "\n") + 2
		for _, point := range []string{"0000", "0042", "0043"} {
			isRead(t, "f", text(ahead, one(point, "A", "L")), nil, n, api.ErrRising)
			isRead(t, "f", text(ahead, "", one(point, "A", "L")), nil, n+1, api.ErrRising)
			for _, behind := range []string{"", l, "x", "@x: y", one("0045", "A", "L"), last("0045", "B"), last("0040", "A"), one("0045", "<A, Last>", "R"), first("0045", "A")} {
				isRead(t, "f", text(ahead, first(point, "A"), behind), nil, n, api.ErrRising)
			}
			isRead(t, "f", text(ahead, last(point, "A")), nil, n, api.ErrName)
		}
		isRead(t, "f", text(ahead, f, l), nil, n, api.ErrRising)
		isRead(t, "f", text(ahead, last("0044", "A")), nil, n, api.ErrName)
		isRead(t, "f", text(ahead, one("0044", "A", "X")), nil, n, api.ErrNoClass)
	}
	isRead(t, "f", text(f, l, one("0044", "A", "L")), nil, 3, api.ErrRising)
	isRead(t, "f", text(f, l, one("0045", "A", "L")), nil, 3, api.ErrRising)
	isRead(t, "f", text(f, l, first("0044", "A"), last("0047", "A")), nil, 3, api.ErrRising)
	isRead(t, "f", text(f, l, one("0046", "B", "L")), []api.Row{rowOf(1, 0x43, 0x45, "A"), rowOf(3, 0x46, 0x46, "B")}, 0, api.OK)
	isRead(t, "f", one("0000", "A", "L"), []api.Row{rowOf(1, 0, 0, "A")}, 0, api.OK)
	isRead(t, "f", text(first("0000", "A"), last("10FFFF", "A")), []api.Row{rowOf(1, 0, 0x10FFFF, "A")}, 0, api.OK)
}

// P6.2: the first that is refused; a line that is none ahead of all that the rows are asked.
func TestReadFaults(t *testing.T) {
	good := one("0041", "A", "L")
	for _, file := range []string{"f", "", "g h", "\xff"} {
		isRead(t, file, text("x", "y"), nil, 1, api.ErrCells)
		isRead(t, file, text(good, "", "@x: y", "x"), nil, 3, api.ErrOrder)
		isRead(t, file, text(good, "@x", "x"), nil, 2, api.ErrOrder)
		isRead(t, file, text("x", good, "\xff"), nil, 3, api.ErrBytes)
		isRead(t, file, text("x", one("0041", "\x01", "L"), "@"), nil, 2, api.ErrControl)
		isRead(t, file, text("x", strings.Repeat("é", api.MaxLine+1)), nil, 2, api.ErrWide)
		isRead(t, file, text("@x: y", "@"), nil, 2, api.ErrOrder)
		isRead(t, file, text(first("0041", "A"), "", "\r\r"), nil, 3, api.ErrControl)
		isRead(t, file, "\n"+mark+good, nil, 2, api.ErrHex)
	}
	_, err := rows.Read("f", text(good, good))
	if err == nil || err.Error() != "f:2: error 62" {
		t.Errorf("told as %v", err)
	}
}

// P6.2: a field that is wrong, blanks around it or not.
func TestReadScans(t *testing.T) {
	for _, f := range askedFields() {
		for _, wrong := range wrongFields()[f.at] {
			if strings.HasPrefix(wrong, " ") { // which the line's reading leaves out
				continue
			}
			l := with(f.at, wrong)
			for _, between := range []string{";", "; ", "\t; "} {
				isRead(t, "f", text("", strings.Join(l.Fields, between), one("0040", "A", "L")), nil, 2, f.why)
			}
		}
	}
}

// someLines are lines of which texts are made.
func someLines() []string {
	return []string{
		"", "# n", "# @missing: x", "@x: y", "x", "\xff",
		one("0041", "A", "L"), one("0042", "A", "L"), one("0043", "<, Last>", "L"), one("0042", "A", "l"),
		first("0041", "A"), first("0042", "A"), first("0042", "B"), first("0043", "A"),
		last("0042", "A"), last("0043", "A"), last("0043", "B"), last("0044", "A"), one("0043", "<A, Last>", "R"),
	}
}

// P6.2: all texts of up to four lines.
func TestReadAllTexts(t *testing.T) {
	good := 0
	for size := range 5 {
		for word := range trial.Words(someLines(), size) {
			s := text(word...)
			want, line, why := readOf(s)
			isRead(t, "f", s, want, line, why)
			if why == api.OK {
				good++
			}
		}
	}
	if good < 1000 {
		t.Errorf("only %d texts can be read", good)
	}
}

// digits is a code point as it is written.
func digits(point int) string { return fmt.Sprintf("%04X", point) }

// P6.2: longer texts, of lines that go well together more often than not.
func TestReadLongerTexts(t *testing.T) {
	next := trial.Numbers()
	pick := func(n int) int { return int(next()>>8) % n }
	good := 0
	for range 3000 {
		var l []string
		at := 0x1000
		for range pick(12) {
			at += pick(20) // 0, and so wrong, now and then
			switch pick(6) {
			case 0:
				l = append(l, first(digits(at), "A"), someLines()[pick(3)])
				at += pick(20)
				l = append(l, last(digits(at), "A"))
			case 1:
				l = append(l, someLines()[pick(3)])
			default:
				l = append(l, one(digits(at), "A", "L"))
			}
		}
		want, line, why := readOf(text(l...))
		isRead(t, "f", text(l...), want, line, why)
		if why == api.OK {
			good++
		}
	}
	if good < 300 || good > 2700 {
		t.Errorf("%d texts can be read", good)
	}
}

// moved is the rows, those from that line on a line further down.
func moved(rows []api.Row, line int) []api.Row {
	out := slices.Clone(rows)
	for i := range out {
		if out[i].Line >= line {
			out[i].Line++
		}
	}
	return out
}

// P6.9: a blank line, or a note, between two lines, ahead of the first and behind the last.
func TestReadLineMore(t *testing.T) {
	texts := [][]string{{first("0041", "A"), "", last("0045", "A"), "# n", one("0046", "B", "L"), first("0047", "C"), last("0048", "C"), one("0049", "D", "L")}}
	for word := range trial.Words(someLines(), 3) {
		texts = append(texts, word)
	}
	more := []string{"", " \t ", "\r", "#", "# n", "\t# \xc3\xa9;;# x", "# @missing", "# @missing: x", "# " + rightLine, "#" + strings.Repeat("é", api.MaxLine-1)}
	tried := 0
	for _, l := range texts {
		read, err := rows.Read("f", text(l...))
		if err != nil {
			continue
		}
		for at := range len(l) + 1 {
			for _, m := range more {
				for _, ahead := range []string{"", mark} {
					s := ahead + strings.Join(slices.Insert(slices.Clone(l), at, m), "\n") + "\n"
					isRead(t, "f", s, moved(read, at+1), 0, api.OK)
					tried++
				}
			}
		}
	}
	if tried < 5000 {
		t.Errorf("only %d texts were tried", tried)
	}
}

// P6.8: of rows that Read answers each number has one row at most, and Runes tells each once, rising.
func TestReadRowsAreApart(t *testing.T) {
	for word := range trial.Words(someLines(), 4) {
		read, _ := rows.Read("f", text(word...))
		above := rune(-1)
		told := map[rune]int{}
		for r, row := range rows.Runes(read) {
			if r <= above {
				t.Fatalf("%q: %X behind %X", word, r, above)
			}
			if found, is := rows.Find(read, r); !is || found != row {
				t.Fatalf("%q: %X is in %v and in %v", word, r, row, found)
			}
			above = r
			told[r]++
		}
		for r := rune(0x3F); r < 0x47; r++ {
			count := 0
			for _, row := range read {
				if row.First <= r && r <= row.Last {
					count++
				}
			}
			if count > 1 || count != told[r] {
				t.Fatalf("%q: %X has %d rows, and is told %d times", word, r, count, told[r])
			}
		}
	}
}

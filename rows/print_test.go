package rows_test

import (
	"fmt"
	"iter"
	"math"
	"regexp"
	"slices"
	"strings"
	"testing"
	"unicode/utf8"

	"furrow/api"
	"furrow/rows"
	"furrow/trial"
	"furrow/words"
)

var (
	catForm  = regexp.MustCompile(`\A[A-Z][a-z]\z`)
	nameForm = regexp.MustCompile(`\A[^\x00-\x08\x0A-\x1F\x7F;#]+\z`)
)

// isPoint tells whether r is a code point.
func isPoint(r rune) bool { return r >= 0 && r <= api.MaxRune }

// mayName tells whether a row, of one code point or of more, may have that name.
func mayName(name string, alone bool) bool {
	if !utf8.ValidString(name) || !nameForm.MatchString(name) {
		return false
	}
	if !alone { // "<", the name and ", First>" are 256 characters at most
		return utf8.RuneCountInString(name) <= 247
	}
	_, half := plainOf(name)
	return half == "" && utf8.RuneCountInString(name) <= 256 && strings.Trim(name, " \t") == name
}

// may tells whether Print takes the row alone.
func may(row api.Row) bool {
	return isPoint(row.First) && isPoint(row.Last) && row.First <= row.Last && isPoint(row.Twin) &&
		catForm.MatchString(row.Cat) && row.Comb <= 254 && row.Class >= api.L && row.Class <= api.PDI &&
		mayName(row.Name, row.First == row.Last)
}

// printedOf is the lines of a row that may be.
func printedOf(row api.Row) string {
	class, _ := words.Short(row.Class)
	twin, flag := "", "N"
	if row.Twin != 0 {
		twin = fmt.Sprintf("%04X", row.Twin)
	}
	if row.Mirrored {
		flag = "Y"
	}
	line := func(point rune, name string) string {
		return fmt.Sprintf("%04X;%s;%s;%d;%s;%s;;;;%s;;;;;\n", point, name, row.Cat, row.Comb, class, twin, flag)
	}
	if row.First == row.Last {
		return line(row.First, row.Name)
	}
	return line(row.First, "<"+row.Name+", First>") + line(row.Last, "<"+row.Name+", Last>")
}

// checkOf is Check's answer of the rows, and what they are printed as.
func checkOf(list []api.Row) (string, api.Errno) {
	wrote := ""
	for i, row := range list {
		if !may(row) {
			return "", api.ErrArg
		}
		if i > 0 && list[i-1].Last >= row.First {
			return "", api.ErrRising
		}
		wrote += printedOf(row)
	}
	return wrote, api.OK
}

// isPrinted holds Check and Print of the rows against what they are to be, and Read of the lines against the rows.
func isPrinted(t *testing.T, list ...api.Row) {
	t.Helper()
	want, wantWhy := checkOf(list)
	if why := rows.Check(list...); why != wantWhy {
		t.Fatalf("Check of %v = %d, not %d", list, why, wantWhy)
	}
	wrote, why := rows.Print(list...)
	if wrote != want || why != wantWhy {
		t.Fatalf("Print of %v = %q, %d, not %q, %d", list, wrote, why, want, wantWhy)
	}
	if why != api.OK {
		return
	}
	read, err := rows.Read("f", wrote)
	if err != nil || !slices.Equal(unnumbered(read), unnumbered(list)) {
		t.Fatalf("%v are printed as %q, which is %v, %v", list, wrote, read, err)
	}
}

// unnumbered is the rows, their Lines left out.
func unnumbered(list []api.Row) []api.Row {
	out := slices.Clone(list)
	for i := range out {
		out[i].Line = 0
	}
	return out
}

// row is a row that may be, from one code point to another.
func row(from, to rune) api.Row {
	return api.Row{Line: 5, First: from, Last: to, Name: "A", Cat: "Lu", Class: api.L}
}

// P6.4: the chapter's example, a range, and all that a row has.
func TestPrint(t *testing.T) {
	whole := api.Row{First: 0xE000, Last: 0x10FFFF, Name: "B é", Cat: "Co", Comb: 254, Class: api.PDI, Twin: 0x10FFFF, Mirrored: true}
	for _, c := range []struct {
		list []api.Row
		want string
	}{
		{nil, ""},
		{[]api.Row{}, ""},
		{[]api.Row{row(0x41, 0x41)}, "0041;A;Lu;0;L;;;;;N;;;;;\n"},
		{[]api.Row{row(0x41, 0x42)}, "0041;<A, First>;Lu;0;L;;;;;N;;;;;\n0042;<A, Last>;Lu;0;L;;;;;N;;;;;\n"},
		{[]api.Row{row(0, 0), row(1, 0xDFFF), whole}, "0000;A;Lu;0;L;;;;;N;;;;;\n0001;<A, First>;Lu;0;L;;;;;N;;;;;\nDFFF;<A, Last>;Lu;0;L;;;;;N;;;;;\n" +
			"E000;<B é, First>;Co;254;PDI;10FFFF;;;;Y;;;;;\n10FFFF;<B é, Last>;Co;254;PDI;10FFFF;;;;Y;;;;;\n"},
	} {
		if got, why := rows.Print(c.list...); got != c.want || why != api.OK {
			t.Errorf("Print of %v = %q, %d", c.list, got, why)
		}
		if why := rows.Check(c.list...); why != api.OK {
			t.Errorf("Check of %v = %d", c.list, why)
		}
		isPrinted(t, c.list...)
	}
}

// changed tells rows that differ from row in one thing, or in two.
func changed(row api.Row) iter.Seq[api.Row] {
	return func(yield func(api.Row) bool) {
		changes := changesOf()
		for i, one := range changes {
			for _, other := range changes[i:] {
				r := row
				one(&r)
				other(&r)
				if !yield(r) {
					return
				}
			}
		}
	}
}

// changesOf are changes of a row, some to what may be, some to what may not.
func changesOf() []func(*api.Row) {
	var out []func(*api.Row)
	for _, r := range []rune{math.MinInt32, -1, 0, 1, 0x41, 0xD800, 0xFFFF, 0x10000, 0x10FFFF, 0x110000, math.MaxInt32} {
		out = append(out,
			func(row *api.Row) { row.First = r },
			func(row *api.Row) { row.Last = r },
			func(row *api.Row) { row.First, row.Last = r, r },
			func(row *api.Row) { row.Twin = r },
			func(row *api.Row) { row.Line = int(r) })
	}
	for _, name := range namesToTry() {
		out = append(out, func(row *api.Row) { row.Name = name })
	}
	for _, cat := range []string{"", "L", "Lu", "Zz", "LU", "lu", "Lul", "L;", "\xff\xff", "Lu\n", "Lu ", "Lu;0;L"} {
		out = append(out, func(row *api.Row) { row.Cat = cat })
	}
	for _, n := range []uint8{0, 1, 9, 10, 99, 100, 253, 254, 255} {
		out = append(out, func(row *api.Row) { row.Comb = n })
	}
	for _, c := range []api.Class{0, 1, 2, 14, 22, 23, 24, 128, 255} {
		out = append(out, func(row *api.Row) { row.Class = c })
	}
	return append(out, func(row *api.Row) { row.Mirrored = true })
}

// namesToTry are names, of which some may be, some may be of ranges alone, some may not.
func namesToTry() []string {
	out := []string{
		"", "A", "é", fffd, "\xff", "a\xe2\x82", " ", "\t", " A", "A ", "\tA", "A\t", "A B", "A\tB", "A;B", ";", "A#B", "#", "@A", "@x: y", "A,B", "A, B",
		"A\n", "A\r", "\n", "\r\n", "A\x00", "A\x1f", "A\x7f", "A\u0080", "\u00a0", "\u3000A", mark, "\U0010ffff",
		"<", ">", "<>", "<A>", "<A, First>", "<A, Last>", "<, First>", "<, Last>", "<A, first>", "A, First>", ", First>", ", Last>", "<<A, First>, Last>",
		"A;Lu;0;L;;;;;N;;;;;\n0042;A", "A, First>;Lu;0;L;;;;;N;;;;;\n0042;<A, Last>;Lu;0;L;;;;;N;;;;;\n0043;<A",
	}
	for _, size := range []int{246, 247, 248, 249, 255, 256, 257, 5000} {
		for _, c := range []string{"A", "é", "\U0001f600", "\xff"} {
			out = append(out, strings.Repeat(c, size))
		}
	}
	return out
}

// P6.3, P6.4 and P6.7: rows alone, each thing of them changed, and each two.
func TestPrintAlone(t *testing.T) {
	for _, from := range []api.Row{row(0x41, 0x41), row(0x41, 0x50)} {
		good := 0
		for r := range changed(from) {
			isPrinted(t, r)
			if may(r) {
				good++
			}
		}
		if good < 500 {
			t.Errorf("only %d of the rows may be", good)
		}
	}
}

// P6.4: names of all short orders of pieces, of one code point and of several.
func TestPrintNames(t *testing.T) {
	for name := range trial.Joined([]string{"A", " ", "\t", "<", ">", ", First>", ", Last>", ";", "#", "é", "\xff", "\n"}, 4) {
		for _, r := range []api.Row{row(0x41, 0x41), row(0x41, 0x42)} {
			r.Name = name
			isPrinted(t, r)
		}
	}
}

// P6.3: rows that may not be, told ahead of their not rising.
func TestCheckRefuses(t *testing.T) {
	good := row(0x41, 0x45)
	for _, c := range []struct {
		list []api.Row
		want api.Errno
	}{
		{nil, api.OK},
		{[]api.Row{{}}, api.ErrArg},
		{[]api.Row{good}, api.OK},
		{[]api.Row{row(0x45, 0x41)}, api.ErrArg},
		{[]api.Row{row(-1, -1)}, api.ErrArg},
		{[]api.Row{row(-1, 5)}, api.ErrArg},
		{[]api.Row{row(0x110000, 0x110000)}, api.ErrArg},
		{[]api.Row{row(0x41, 0x110000)}, api.ErrArg},
		{[]api.Row{row(math.MinInt32, math.MaxInt32)}, api.ErrArg},
		{[]api.Row{good, row(0x46, 0x46)}, api.OK},
		{[]api.Row{good, row(0x45, 0x46)}, api.ErrRising},
		{[]api.Row{good, row(0x45, 0x45)}, api.ErrRising},
		{[]api.Row{good, row(0x42, 0x43)}, api.ErrRising},
		{[]api.Row{good, row(0x40, 0x40)}, api.ErrRising},
		{[]api.Row{good, good}, api.ErrRising},
		{[]api.Row{good, row(0x47, 0x46)}, api.ErrArg},
		{[]api.Row{good, row(0x43, 0x42)}, api.ErrArg},
		{[]api.Row{good, row(0x110000, 0x110000)}, api.ErrArg},
		{[]api.Row{good, {}}, api.ErrArg},
		{[]api.Row{good, good, {}}, api.ErrRising},
		{[]api.Row{good, {}, good}, api.ErrArg},
		{[]api.Row{{}, good, good}, api.ErrArg},
		{[]api.Row{good, row(0x46, 0x46), row(0x46, 0x47)}, api.ErrRising},
	} {
		if got := rows.Check(c.list...); got != c.want {
			t.Errorf("Check of %v = %d, not %d", c.list, got, c.want)
		}
		if wrote, why := rows.Print(c.list...); why != c.want || why != api.OK && wrote != "" {
			t.Errorf("Print of %v = %q, %d", c.list, wrote, why)
		}
	}
}

// P6.3, P6.4 and P6.7: all short lists of rows that meet, overlap, follow one another, or may not be.
func TestCheckLists(t *testing.T) {
	bad := row(0x43, 0x43)
	bad.Name = "<A, Last>"
	twin := row(0x44, 0x46)
	twin.Twin, twin.Mirrored, twin.Comb = 0x41, true, 7
	letters := []api.Row{row(0x40, 0x40), row(0x41, 0x41), row(0x41, 0x43), row(0x43, 0x44), twin, row(0x47, 0x47), row(0x42, 0x41), bad}
	for size := range 5 {
		for list := range trial.Words(letters, size) {
			isPrinted(t, list...)
		}
	}
}

// P6.3 and P6.4: Line counts for nothing.
func TestLineCountsForNothing(t *testing.T) {
	want, _ := rows.Print(row(0x41, 0x41), row(0x42, 0x44))
	for _, no := range []int{0, 1, -1, math.MinInt, math.MaxInt} {
		one, two := row(0x41, 0x41), row(0x42, 0x44)
		one.Line, two.Line = no, -no
		if got, why := rows.Print(one, two); got != want || why != api.OK {
			t.Errorf("Print of the Lines %d = %q, %d", no, got, why)
		}
		if why := rows.Check(one, two); why != api.OK {
			t.Errorf("Check of the Lines %d = %d", no, why)
		}
		if why := rows.Check(two, one); why != api.ErrRising {
			t.Errorf("Check of the Lines %d = %d", no, why)
		}
	}
	if why := rows.Check(row(0x41, 0x41), row(0x41, 0x41)); why != api.ErrRising {
		t.Errorf("Check of rows of one Line = %d", why)
	}
}

// P6.7: what Read answers, Print prints, and Read reads that as the same, with the Lines of what was printed.
func TestReadAndBack(t *testing.T) {
	tried := 0
	back := func(s string) {
		read, err := rows.Read("f", s)
		if err != nil {
			return
		}
		tried++
		wrote, why := rows.Print(read...)
		if why != api.OK || rows.Check(read...) != api.OK {
			t.Fatalf("Print of what %q is = %q, %d", s, wrote, why)
		}
		again, err := rows.Read("g", wrote)
		if err != nil || !slices.Equal(unnumbered(again), unnumbered(read)) {
			t.Fatalf("%q is printed as %q, which is %v, %v", s, wrote, again, err)
		}
		if twice, why := rows.Print(again...); twice != wrote || why != api.OK {
			t.Fatalf("%q is printed as %q, then %q", s, wrote, twice)
		}
	}
	for word := range trial.Words(someLines(), 4) {
		back(text(word...))
	}
	texts := pieces()
	for _, at := range []int{1, 5} {
		for field := range texts[at] {
			back(strings.Join(with(at, field).Fields, ";"))
		}
	}
	for _, name := range namesToTry() {
		back(one("0041", name, "AL"))
		back(text(first("0041", name), last("0042", name)))
	}
	if tried < 3000 {
		t.Errorf("only %d texts can be read", tried)
	}
}

package rows_test

import (
	"fmt"
	"iter"
	"math"
	"regexp"
	"slices"
	"strings"
	"testing"
	"unicode/utf8"

	"furrow/api"
	"furrow/rows"
	"furrow/trial"
	"furrow/words"
)

const fffd = "\xef\xbf\xbd"

// rightLine is a row's line of which every field is right.
const rightLine = "0041;A;Lu;0;L;;;;;N;;;;0061;"

// lineOf is the line of those fields, the semicolons between them.
func lineOf(text string) api.Line {
	return api.Line{No: 7, Kind: api.LineData, Fields: strings.Split(text, ";")}
}

// with is the right line with another field of that number.
func with(at int, field string) api.Line {
	l := lineOf(rightLine)
	l.Fields[at] = field
	return l
}

// asked is a field that is asked: its number, its error, which texts it may be.
type asked struct {
	at   int
	why  api.Errno
	form *regexp.Regexp
}

// askedFields are the fields that are asked, in the order of the chapter's table.
func askedFields() []asked {
	const point = `(?:[0-9A-F]{4}|[1-9A-F][0-9A-F]{4}|10[0-9A-F]{4})`
	form := func(s string) *regexp.Regexp { return regexp.MustCompile(`(?s)\A(?:` + s + `)\z`) }
	return []asked{
		{0, api.ErrHex, form(point)},
		{1, api.ErrName, form(`.{1,256}`)},
		{2, api.ErrCat, form(`[A-Z][a-z]`)},
		{3, api.ErrComb, form(`[0-9]|[1-9][0-9]|1[0-9][0-9]|2[0-4][0-9]|25[0-4]`)},
		{4, api.ErrNoClass, form(`L|R|AL|EN|ES|ET|AN|CS|NSM|BN|B|S|WS|ON|LRE|LRO|RLE|RLO|PDF|LRI|RLI|FSI|PDI`)},
		{5, api.ErrMap, form(`|(?:<[^ ]*> )?` + point + `(?: ` + point + `)*`)},
		{9, api.ErrFlag, form(`[YN]`)},
	}
}

// wrongFields are texts that each of these fields may not be.
func wrongFields() map[int][]string {
	return map[int][]string{
		0: {"", "41", "004a", "110000"},
		1: {"", strings.Repeat("é", 257)},
		2: {"", "L", "lu", "LUu"},
		3: {"", "00", "255", "+1"},
		4: {"", "l", "Left_To_Right", "X"},
		5: {"<a>", " 0041", "0041  0042", "x"},
		9: {"", "y", "YN"},
	}
}

// P6.1: the chapter's examples.
func TestScan(t *testing.T) {
	a := api.Row{Line: 7, First: 0x41, Last: 0x41, Name: "LATIN CAPITAL LETTER A", Cat: "Lu", Class: api.L}
	left := api.Row{Line: 7, First: 0x28, Last: 0x28, Name: "LEFT PARENTHESIS", Cat: "Ps", Class: api.ON, Mirrored: true}
	x := api.Row{Line: 7, First: 0x2329, Last: 0x2329, Name: "X", Cat: "Ps", Class: api.ON, Mirrored: true}
	twin := x
	twin.Twin = 0x3008
	for _, c := range []struct {
		line string
		want api.Row
	}{
		{"0041;LATIN CAPITAL LETTER A;Lu;0;L;;;;;N;;;;0061;", a},
		{"0028;LEFT PARENTHESIS;Ps;0;ON;;;;;Y;OPENING PARENTHESIS;;;;", left},
		{"2329;X;Ps;0;ON;3008;;;;Y;;;;;", twin},
		{"2329;X;Ps;0;ON;<compat> 3008;;;;Y;;;;;", x},
		{"2329;X;Ps;0;ON;0041 0300;;;;Y;;;;;", x},
	} {
		if got, why := rows.Scan(lineOf(c.line)); got != c.want || why != api.OK {
			t.Errorf("Scan of %q = %v, %d", c.line, got, why)
		}
	}
	for _, c := range []struct {
		line string
		want api.Errno
	}{
		{"2329;X;Ps;0;ON;0041  0300;;;;Y;;;;;", api.ErrMap},
		{"0041;A;Lu;0;L;;;;;N;;;;", api.ErrCells},
		{"0041;A;LU;0;L;;;;;N;;;;;", api.ErrCat},
		{"0041;A;Lu;255;L;;;;;N;;;;;", api.ErrComb},
		{"0041;A;Lu;00;L;;;;;N;;;;;", api.ErrComb},
		{"0041;A;Lu;0;Z;;;;;N;;;;;", api.ErrNoClass},
		{"0041;A;Lu;0;L;;;;;y;;;;;", api.ErrFlag},
	} {
		if got, why := rows.Scan(lineOf(c.line)); got != (api.Row{}) || why != c.want {
			t.Errorf("Scan of %q = %v, %d", c.line, got, why)
		}
	}
}

// P6.1: lines of each kind, with any number of fields.
func TestScanKinds(t *testing.T) {
	right := lineOf(rightLine).Fields
	wrong := slices.Repeat([]string{"x"}, 15)
	for kind := range 256 {
		for _, fields := range [][]string{nil, {}, {""}, right[:1], right[:14], right, append(slices.Clone(right), ""), wrong, wrong[:14]} {
			want := api.ErrCells
			switch {
			case kind == int(api.LineOrder):
				want = api.ErrOrder
			case kind == int(api.LineData) && len(fields) == 15 && fields[0] == "x":
				want = api.ErrHex
			case kind == int(api.LineData) && len(fields) == 15:
				want = api.OK
			}
			l := api.Line{No: 3, Kind: api.LineKind(kind), Name: "x", Fields: fields, Note: "n"}
			if got, why := rows.Scan(l); why != want || why != api.OK && got != (api.Row{}) {
				t.Fatalf("Scan of %v = %v, %d, not %d", l, got, why, want)
			}
		}
	}
}

// P6.1: another number of fields, ahead of all that they are.
func TestScanNumberOfFields(t *testing.T) {
	for size := range 40 {
		for _, field := range []string{"", "A", "\xff"} {
			fields := slices.Repeat([]string{field}, size)
			copy(fields, lineOf(rightLine).Fields)
			for _, first := range []string{"0041", "x"} {
				want := api.ErrCells
				switch {
				case size == 15 && first == "x":
					want = api.ErrHex
				case size == 15:
					want = api.OK
				}
				if size > 0 {
					fields[0] = first
				}
				if _, why := rows.Scan(api.Line{Kind: api.LineData, Fields: fields}); why != want {
					t.Errorf("Scan of %d fields, the first %q: %d", size, first, why)
				}
			}
		}
	}
}

// P6.1: the number and the note of a line, and an order's name, count for nothing but the row's Line.
func TestScanNumbers(t *testing.T) {
	want := api.Row{First: 0x41, Last: 0x41, Name: "A", Cat: "Lu", Class: api.L}
	for _, no := range []int{0, 1, -1, math.MaxInt, math.MinInt} {
		l := lineOf(rightLine)
		l.No, l.Name, l.Note, want.Line = no, "x", "\xff", no
		if got, why := rows.Scan(l); got != want || why != api.OK {
			t.Errorf("Scan of the line %d = %v, %d", no, got, why)
		}
	}
}

// P6.1: of fields that are wrong the first, in the order of the table, whichever others are wrong.
func TestScanFirstError(t *testing.T) {
	fields, wrong := askedFields(), wrongFields()
	for set := range 1 << len(fields) {
		for pick := range 4 {
			l, want := lineOf(rightLine), api.OK
			for i, f := range fields {
				if set>>i&1 == 0 {
					continue
				}
				l.Fields[f.at] = wrong[f.at][pick%len(wrong[f.at])]
				if want == api.OK {
					want = f.why
				}
			}
			if _, why := rows.Scan(l); why != want {
				t.Fatalf("Scan of %q: %d, not %d", l.Fields, why, want)
			}
			l.Fields = l.Fields[:14]
			if _, why := rows.Scan(l); why != api.ErrCells {
				t.Fatalf("Scan of %q: %d", l.Fields, why)
			}
		}
	}
}

// P6.1: the other fields may be anything.
func TestScanOtherFields(t *testing.T) {
	want, _ := rows.Scan(lineOf(rightLine))
	for _, at := range []int{6, 7, 8, 10, 11, 12, 13, 14} {
		for _, field := range []string{"", "x", "\xff", ";", "#", "\n", " ", "Y", strings.Repeat("é", 5000)} {
			if got, why := rows.Scan(with(at, field)); got != want || why != api.OK {
				t.Errorf("Scan with the field %d %.10q = %v, %d", at, field, got, why)
			}
		}
	}
}

// pieces are what texts of a field are put together of, and how many at most.
func pieces() map[int]iter.Seq[string] {
	return map[int]iter.Seq[string]{
		0: trial.Joined([]string{"0", "1", "9", "A", "F", "f", "G", "-"}, 6),
		1: trial.Joined([]string{"A", "<", ">", ", First>", ", Last>", " ", "é", "\xff", "\n"}, 4),
		2: trial.Joined(strings.Split("A,Z,a,z,@,[,`,{,é,0", ","), 4),
		3: trial.Joined(strings.Split("0,1,2,4,5,9,+,-,_, ,x,.", ","), 4),
		4: trial.Joined(strings.Split("L,R,A,E,N,S,O,I,l,_, ,PD,F", ","), 4),
		5: trial.Joined([]string{"<", ">", " ", "0041", "10FFFF", "41", "a", "\xff", "\t"}, 5),
		9: trial.Joined([]string{"Y", "N", "y", "n", " ", "0", "\xff"}, 3),
	}
}

// scanned holds Scan of the right line with another field against what the chapter's table says.
func scanned(t *testing.T, f asked, field string) {
	t.Helper()
	want := f.why
	if f.form.MatchString(field) {
		want = api.OK
	}
	got, why := rows.Scan(with(f.at, field))
	if why != want || why != api.OK && got != (api.Row{}) {
		t.Fatalf("Scan with the field %d %q = %v, %d, not %d", f.at, field, got, why, want)
	}
	if why == api.OK && got != rowWith(f.at, field) {
		t.Fatalf("Scan with the field %d %q = %v", f.at, field, got)
	}
}

// rowWith is the row of the right line with another field, which is right.
func rowWith(at int, field string) api.Row {
	row := api.Row{Line: 7, First: 0x41, Last: 0x41, Name: "A", Cat: "Lu", Class: api.L}
	switch at {
	case 0:
		fmt.Sscanf(field, "%X", &row.First)
		row.Last = row.First
	case 1:
		row.Name = field
	case 2:
		row.Cat = field
	case 3:
		fmt.Sscanf(field, "%d", &row.Comb)
	case 4:
		for c := api.L; c <= api.PDI; c++ {
			if short, _ := words.Short(c); short == field {
				row.Class = c
			}
		}
	case 5:
		if !strings.ContainsAny(field, "< ") {
			fmt.Sscanf(field, "%X", &row.Twin)
		}
	case 9:
		row.Mirrored = field == "Y"
	}
	return row
}

// P6.1: each field that is asked, of all short texts that its pieces make.
func TestScanFields(t *testing.T) {
	texts := pieces()
	for _, f := range askedFields() {
		for field := range texts[f.at] {
			scanned(t, f, field)
		}
		for _, field := range wrongFields()[f.at] {
			scanned(t, f, field)
			if f.form.MatchString(field) {
				t.Errorf("%q may be the field %d", field, f.at)
			}
		}
	}
}

// P6.1: each field that is asked, of all texts of up to two bytes, and of some of many.
func TestScanFieldsOfBytes(t *testing.T) {
	short := []string{""}
	for a := range 256 {
		short = append(short, string([]byte{byte(a)}))
		for b := range 256 {
			short = append(short, string([]byte{byte(a), byte(b)}))
		}
	}
	for _, f := range askedFields() {
		for _, field := range short {
			scanned(t, f, field)
		}
		for _, field := range trial.LongTexts() {
			scanned(t, f, field)
		}
	}
}

// P6.1: code points.
func TestScanCodePoints(t *testing.T) {
	for field, want := range map[string]rune{
		"0000": 0, "0041": 0x41, "ABCD": 0xABCD, "D800": 0xD800, "FFFF": 0xFFFF, "10000": 0x10000, "FFFFF": 0xFFFFF, "100000": 0x100000, "10FFFF": 0x10FFFF,
	} {
		if got, why := rows.Scan(with(0, field)); got.First != want || got.Last != want || why != api.OK {
			t.Errorf("Scan of %q = %v, %d", field, got, why)
		}
	}
	for _, field := range []string{"", "0", "41", "041", "00041", "000041", "0000041", "abcd", "ABCd", "10ffff", "110000", "1000000", "FFFFFF", "U+0041", "0x41", "0041 ", " 0041", "0041..0042", "-041"} {
		if got, why := rows.Scan(with(0, field)); got != (api.Row{}) || why != api.ErrHex {
			t.Errorf("Scan of %q = %v, %d", field, got, why)
		}
	}
}

// P6.1: names of up to 256 characters, of each width, and of bytes that stand for none, which count as one each.
func TestScanNames(t *testing.T) {
	for _, c := range []string{"A", "é", "\u20ac", "\U0001f600", fffd, "\xff", "\xe2\x82", "\x00", "\n", ";", " "} {
		for _, size := range []int{0, 1, 2, 127, 128, 129, 255, 256, 257, 258, 512, 5000} {
			name := strings.Repeat(c, size)
			want, wantName := api.OK, name
			if count := utf8.RuneCountInString(name); count < 1 || count > 256 {
				want, wantName = api.ErrName, ""
			}
			if got, why := rows.Scan(with(1, name)); got.Name != wantName || why != want {
				t.Errorf("Scan of a name of %d times %q: %d", size, c, why)
			}
		}
	}
}

// P6.1: of a half the Name is the whole name.
func TestScanHalves(t *testing.T) {
	for _, name := range []string{"<A, First>", "<A, Last>", "<, First>", "<, Last>", "<A, Second>", "<control>", "<", ">", ", First>"} {
		want := api.Row{Line: 7, First: 0x41, Last: 0x41, Name: name, Cat: "Lu", Class: api.L}
		if got, why := rows.Scan(with(1, name)); got != want || why != api.OK {
			t.Errorf("Scan of the name %q = %v, %d", name, got, why)
		}
	}
}

// P6.1: categories, each that may be and such as may not.
func TestScanCategories(t *testing.T) {
	for a := 'A'; a <= 'Z'; a++ {
		for b := 'a'; b <= 'z'; b++ {
			cat := string([]rune{a, b})
			if got, why := rows.Scan(with(2, cat)); got.Cat != cat || why != api.OK {
				t.Errorf("Scan of the category %q = %v, %d", cat, got, why)
			}
		}
	}
	for _, cat := range []string{"", "L", "u", "LU", "lu", "lU", "Lul", "Lu ", " Lu", "L u", "Lé", "Éu", "L1", "\u0391b"} {
		if got, why := rows.Scan(with(2, cat)); got != (api.Row{}) || why != api.ErrCat {
			t.Errorf("Scan of the category %q = %v, %d", cat, got, why)
		}
	}
}

// P6.1: combining classes, as they are written and with noughts, signs and other things ahead.
func TestScanCombining(t *testing.T) {
	for number := range 1100 {
		plain := fmt.Sprint(number)
		got, why := rows.Scan(with(3, plain))
		if number <= 254 && (int(got.Comb) != number || why != api.OK) || number > 254 && (got != (api.Row{}) || why != api.ErrComb) {
			t.Errorf("Scan of %s = %v, %d", plain, got, why)
		}
		for _, field := range []string{"0" + plain, "00" + plain, "+" + plain, "-" + plain, " " + plain, plain + " ", plain + ".0", plain + "_0", "0x" + plain} {
			if got, why := rows.Scan(with(3, field)); got != (api.Row{}) || why != api.ErrComb {
				t.Errorf("Scan of %s = %v, %d", field, got, why)
			}
		}
	}
	for _, field := range []string{"", "-0", "+0", "256", "65536", "4294967296", "18446744073709551616", strings.Repeat("9", 5000), strings.Repeat("0", 5000), "1e1", "\u0660", "a"} {
		if got, why := rows.Scan(with(3, field)); got != (api.Row{}) || why != api.ErrComb {
			t.Errorf("Scan of %.20s = %v, %d", field, got, why)
		}
	}
}

// P6.1: classes by their short names alone.
func TestScanClasses(t *testing.T) {
	for c := api.L; c <= api.PDI; c++ {
		short, _ := words.Short(c)
		long, _ := words.Long(c)
		if got, why := rows.Scan(with(4, short)); got.Class != c || why != api.OK {
			t.Errorf("Scan of %s = %v, %d", short, got, why)
		}
		for _, field := range []string{
			long, strings.ToLower(short), strings.ToLower(long), short + " ", " " + short, "_" + short, short + "-", short[:1] + " " + short[1:], short[:1] + "_" + short[1:], short + "X",
		} {
			if got, why := rows.Scan(with(4, field)); got != (api.Row{}) || why != api.ErrNoClass {
				t.Errorf("Scan of %q = %v, %d", field, got, why)
			}
		}
	}
	for _, field := range []string{"", "Z", "Left To Right", "L R", "\xff", "0", "1"} {
		if got, why := rows.Scan(with(4, field)); got != (api.Row{}) || why != api.ErrNoClass {
			t.Errorf("Scan of %q = %v, %d", field, got, why)
		}
	}
}

// P6.1: what a character is made of.
func TestScanParts(t *testing.T) {
	for field, twin := range map[string]rune{
		"": 0, "0000": 0, "3008": 0x3008, "10FFFF": 0x10FFFF, "D800": 0xD800,
		"0041 0300": 0, "0041 0300 0301": 0, "0041 0041": 0, strings.Repeat("0041 ", 800) + "0041": 0,
		"<compat> 3008": 0, "<> 3008": 0, "<a>b> 3008": 0, "<<> 3008": 0, "<>> 3008": 0, "<a><b> 3008": 0, "<\t> 3008": 0, "<\xff;\n> 3008": 0, "<0041> 3008": 0, "<a> 0041 0300": 0,
	} {
		if got, why := rows.Scan(with(5, field)); got.Twin != twin || why != api.OK {
			t.Errorf("Scan of %.20q = %v, %d", field, got, why)
		}
	}
	for _, field := range []string{
		" ", "  ", "0041 ", " 0041", "0041  0300", "0041 0300 ", " 0041 0300", "0041\t0300", "0041\u00a00300", "0041,0300", "00410300",
		"<>", "<a>", "<a> ", " <a>", " <a> 0041", "<a>  0041", "<a>0041", "<a> 0041 ", "<a b> 0041", "< > 0041", "<a > 0041", "<a", "<", ">", "<a 0041", "a> 0041", "> 0041", "< 0041",
		"0041 <a>", "0041 <a> 0042", "<a> <b> 0041", "<a> 0041 <b>", "0041<a>", "x", "41", "110000", "004a", "0041 x", "x 0041", "<a> x", "0041..0042",
	} {
		if got, why := rows.Scan(with(5, field)); got != (api.Row{}) || why != api.ErrMap {
			t.Errorf("Scan of %q = %v, %d", field, got, why)
		}
	}
}

// P6.1: flags.
func TestScanFlags(t *testing.T) {
	for field, mirrored := range map[string]bool{"Y": true, "N": false} {
		if got, why := rows.Scan(with(9, field)); got.Mirrored != mirrored || got.Name != "A" || why != api.OK {
			t.Errorf("Scan of %q = %v, %d", field, got, why)
		}
	}
	for _, field := range []string{"", "y", "n", "YY", "NN", "YN", "Y ", " N", "Yes", "No", "0", "1", "\xff"} {
		if got, why := rows.Scan(with(9, field)); got != (api.Row{}) || why != api.ErrFlag {
			t.Errorf("Scan of %q = %v, %d", field, got, why)
		}
	}
}

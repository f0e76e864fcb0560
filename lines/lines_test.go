package lines_test

import (
	"errors"
	"fmt"
	"reflect"
	"slices"
	"strings"
	"testing"
	"unicode/utf8"

	"furrow/api"
	"furrow/lines"
	"furrow/trial"
)

const (
	mark = "\xef\xbb\xbf"
	fffd = "\xef\xbf\xbd"
)

type numbered = trial.Pair[int, string]

// endings are the pieces of texts at which lines, marks and characters begin and end.
var endings = []string{"a", "\r", "\n", "\xef", "\xbb", "\xbf", "\xc3\xa9", mark}

// fileTexts are texts of these pieces, and texts of all sorts of bytes.
func fileTexts(yield func(string) bool) {
	for text := range trial.Joined(endings, 5) {
		if !yield(text) {
			return
		}
	}
	for _, text := range trial.LongTexts() {
		if !yield(text) || !yield(mark+strings.ReplaceAll(text, "A", "\r\n")) {
			return
		}
	}
}

func linesOf(pieces ...string) []numbered {
	var out []numbered
	for i, p := range pieces {
		out = append(out, numbered{A: i + 1, B: p})
	}
	return out
}

// splitLines is the lines of text and the ends that follow them, by splitting it at each byte 0A.
func splitLines(text string) (told, ends []string) {
	pieces := strings.SplitAfter(strings.TrimPrefix(text, mark), "\n")
	for _, piece := range pieces {
		end := ""
		switch {
		case piece == "":
			continue // behind the last end
		case strings.HasSuffix(piece, "\r\n"):
			end = "\r\n"
		case strings.HasSuffix(piece, "\n"):
			end = "\n"
		}
		told = append(told, piece[:len(piece)-len(end)])
		ends = append(ends, end)
	}
	return told, ends
}

// P3.1
func TestEach(t *testing.T) {
	for _, c := range []struct {
		text string
		want []numbered
	}{
		{"a\r\n\nb", linesOf("a", "", "b")},
		{"", nil},
		{"\n", linesOf("")},
		{"\r\n", linesOf("")},
		{mark, nil},
		{mark + "x", linesOf("x")},
		{mark + "\n", linesOf("")},
		{mark + "\r\n", linesOf("")},
		{mark + mark, linesOf(mark)},
		{mark + mark + "\n" + mark, linesOf(mark, mark)},
		{"\n" + mark, linesOf("", mark)},
		{"x" + mark, linesOf("x" + mark)},
		{mark[:1], linesOf(mark[:1])},
		{mark[:2], linesOf(mark[:2])},
		{mark[:2] + "\n" + mark[2:], linesOf(mark[:2], mark[2:])},
		{"a", linesOf("a")},
		{"a\n", linesOf("a")},
		{"a\nb\n", linesOf("a", "b")},
		{"a\n\n", linesOf("a", "")},
		{"\n\n\r\n\n", linesOf("", "", "", "")},
		{"\r", linesOf("\r")},
		{"a\r", linesOf("a\r")},
		{"a\rb\n", linesOf("a\rb")},
		{"a\r\r\n\rb", linesOf("a\r", "\rb")},
		{"\n\r", linesOf("", "\r")},
		{"\n\ra", linesOf("", "\ra")},
		{"a\xff\n\x80\x00b", linesOf("a\xff", "\x80\x00b")},
		{"a\u0085b\u2028c\u2029d\x0be\x0cf", linesOf("a\u0085b\u2028c\u2029d\x0be\x0cf")},
	} {
		if got := trial.Collect(lines.Each(c.text)); !slices.Equal(got, c.want) {
			t.Errorf("Each of %q tells %v, not %v", c.text, got, c.want)
		}
	}
}

// P3.1 and P3.9: each line, and nothing is lost.
func TestNothingIsLost(t *testing.T) {
	for text := range fileTexts {
		told, ends := splitLines(text)
		got := trial.Collect(lines.Each(text))
		if !slices.Equal(got, linesOf(told...)) {
			t.Fatalf("Each of %q tells %v, not %q", text, got, told)
		}
		all := ""
		if strings.HasPrefix(text, mark) {
			all = mark
		}
		for i, line := range got {
			all += line.B + ends[i]
		}
		if all != text {
			t.Fatalf("the lines of %q are %q in all", text, all)
		}
	}
}

// P3.9: the bytes alone tell where ends lie; the bytes of the end that a line has stand in the text just behind it.
func TestEndsStandBehindLines(t *testing.T) {
	for text := range fileTexts {
		rest := strings.TrimPrefix(text, mark)
		for no, line := range lines.Each(text) {
			if !strings.HasPrefix(rest, line) || strings.Contains(line, "\n") {
				t.Fatalf("%q: the line %d is %q", text, no, line)
			}
			rest = rest[len(line):]
			switch {
			case strings.HasPrefix(rest, "\n") && !strings.HasSuffix(line, "\r"):
				rest = rest[1:]
			case strings.HasPrefix(rest, "\r\n"):
				rest = rest[2:]
			case rest != "":
				t.Fatalf("%q: no end behind the line %d, %q", text, no, line)
			}
		}
		if rest != "" {
			t.Fatalf("%q: %q is left", text, rest)
		}
	}
}

// firstFault is Check's answer, by each of the three faults' own first place.
func firstFault(line string) (int, api.Errno) {
	first, why := 0, api.OK
	note := func(place int, code api.Errno) {
		if why == api.OK || place < first {
			first, why = place, code
		}
	}
	if utf8.RuneCountInString(line) > api.MaxLine {
		note(api.MaxLine, api.ErrWide)
	}
	place := 0
	for rest := line; rest != ""; place++ {
		r, size := utf8.DecodeRuneInString(rest)
		if r == utf8.RuneError && size == 1 {
			note(place, api.ErrBytes)
		}
		rest = rest[size:]
	}
	if at := strings.IndexFunc(line, func(r rune) bool { return r < 9 || r > 9 && r < 32 || r == 127 }); at >= 0 {
		note(utf8.RuneCountInString(line[:at]), api.ErrControl)
	}
	return first, why
}

// P3.2
func TestCheck(t *testing.T) {
	for _, c := range []struct {
		line  string
		place int
		why   api.Errno
	}{
		{"", 0, api.OK},
		{"a", 0, api.OK},
		{"a\x80", 1, api.ErrBytes},
		{"a" + fffd, 0, api.OK},
		{fffd, 0, api.OK},
		{fffd + "\xff", 1, api.ErrBytes},
		{"\xff" + fffd, 0, api.ErrBytes},
		{fffd + fffd[:2], 1, api.ErrBytes},
		{fffd + fffd[:2] + fffd, 1, api.ErrBytes},
		{"é\x01", 1, api.ErrControl},
		{"é\xc3", 1, api.ErrBytes},
		{"a\r", 1, api.ErrControl},
		{"a\n", 1, api.ErrControl},
		{"\n", 0, api.ErrControl},
		{"a\r\nb", 1, api.ErrControl},
		{"\x01\xff", 0, api.ErrControl},
		{"\xff\x01", 0, api.ErrBytes},
		{"é\u20ac\U0001f600\x01\xff", 3, api.ErrControl},
		{"é\u20ac\U0001f600\xff\x01", 3, api.ErrBytes},
		{"\xed\xa0\x80", 0, api.ErrBytes},
		{"a\xf4\x90\x80\x80", 1, api.ErrBytes},
		{"a\xc0\xaf", 1, api.ErrBytes},
		{mark + "a\t# ;@:", 0, api.OK},
		{"\u0080\u0085\u009f\u00a0\u00ad\u2028\u2029\U0010ffff", 0, api.OK},
	} {
		if place, why := lines.Check(c.line); place != c.place || why != c.why {
			t.Errorf("Check of %q = %d, %d", c.line, place, why)
		}
	}
}

// P3.2: which characters may stand in a line.
func TestControls(t *testing.T) {
	for _, r := range []rune{0x00, 0x08, 0x0A, 0x0B, 0x0C, 0x0D, 0x1F, 0x7F} {
		if place, why := lines.Check("ab" + string(r)); place != 2 || why != api.ErrControl {
			t.Errorf("Check of %U = %d, %d", r, place, why)
		}
	}
	for _, r := range []rune{0x09, 0x20, 0x21, 0x7E, 0x80, 0x81, 0x9F, 0xA0} {
		if place, why := lines.Check("ab" + string(r)); place != 0 || why != api.OK {
			t.Errorf("Check of %U = %d, %d", r, place, why)
		}
	}
	for r := rune(0); r <= utf8.MaxRune; r++ {
		if line := string(r); utf8.ValidRune(r) {
			wantPlace, want := firstFault(line)
			if place, why := lines.Check(line); place != wantPlace || why != want {
				t.Fatalf("Check of %U = %d, %d", r, place, why)
			}
		}
	}
}

// P3.2: texts of all sorts of bytes.
func TestCheckOfBytes(t *testing.T) {
	for line := range trial.Texts() {
		wantPlace, want := firstFault(line)
		if place, why := lines.Check(line); place != wantPlace || why != want {
			t.Fatalf("Check of %q = %d, %d, not %d, %d", line, place, why, wantPlace, want)
		}
	}
}

// P3.2: lines as long as they may be, one less and one more, of characters of each width, with a fault ahead of, at and behind the place MaxLine.
func TestLongLines(t *testing.T) {
	for _, c := range []string{"a", "é", "\u20ac", "\U0001f600", fffd} {
		for _, size := range []int{0, 1, api.MaxLine - 1, api.MaxLine, api.MaxLine + 1, api.MaxLine + 2, 3 * api.MaxLine} {
			wantPlace, want := 0, api.OK
			if size > api.MaxLine {
				wantPlace, want = api.MaxLine, api.ErrWide
			}
			if place, why := lines.Check(strings.Repeat(c, size)); place != wantPlace || why != want {
				t.Errorf("Check of %d times %q = %d, %d", size, c, place, why)
			}
		}
		for _, fault := range []struct {
			s   string
			why api.Errno
		}{{"\xff", api.ErrBytes}, {"\xe2\x82", api.ErrBytes}, {"\x01", api.ErrControl}, {"\n", api.ErrControl}, {"\x7f", api.ErrControl}} {
			for _, at := range []int{0, api.MaxLine - 2, api.MaxLine - 1, api.MaxLine, api.MaxLine + 1} {
				wantPlace, want := at, fault.why
				if at >= api.MaxLine {
					wantPlace, want = api.MaxLine, api.ErrWide
				}
				for _, behind := range []int{0, 1, 5} {
					line := strings.Repeat(c, at) + fault.s + strings.Repeat(c, behind)
					if place, why := lines.Check(line); place != wantPlace || why != want {
						t.Errorf("Check of %d times %q, %q, %d times = %d, %d", at, c, fault.s, behind, place, why)
					}
				}
			}
		}
	}
}

// P3.2: a wrong byte is a character of its own, so that lines of them are too long as others are, but wrong ahead of that.
func TestLongLinesOfWrongBytes(t *testing.T) {
	for _, c := range []struct {
		line  string
		place int
		why   api.Errno
	}{
		{strings.Repeat("\xff", api.MaxLine+1), 0, api.ErrBytes},
		{strings.Repeat("a", api.MaxLine-1) + "\xe2\x82", api.MaxLine - 1, api.ErrBytes},
		{strings.Repeat("a", api.MaxLine) + "\xe2\x82", api.MaxLine, api.ErrWide},
		{strings.Repeat("a", api.MaxLine-1) + fffd, 0, api.OK},
		{strings.Repeat("a", api.MaxLine) + fffd, api.MaxLine, api.ErrWide},
	} {
		if place, why := lines.Check(c.line); place != c.place || why != c.why {
			t.Errorf("Check of %q = %d, %d", c.line[api.MaxLine-4:], place, why)
		}
	}
}

// P3.5
func TestRead(t *testing.T) {
	text := mark + "# n\r\n\n0041; L # A\n@x: y;\n#@missing: z"
	want := []api.Line{
		{No: 1, Kind: api.LineBlank, Note: "n"},
		{No: 2, Kind: api.LineBlank},
		{No: 3, Kind: api.LineData, Fields: []string{"0041", "L"}, Note: "A"},
		{No: 4, Kind: api.LineOrder, Name: "x", Fields: []string{"y", ""}},
		{No: 5, Kind: api.LineMissing, Fields: []string{"z"}},
	}
	if got, err := lines.Read("f", text); err != nil || !reflect.DeepEqual(got, want) {
		t.Errorf("Read = %v, %v", got, err)
	}
	for _, empty := range []string{"", mark} {
		if got, err := lines.Read("f", empty); err != nil || len(got) != 0 {
			t.Errorf("Read of %q = %v, %v", empty, got, err)
		}
	}
}

// P3.5: the first line that Scan refuses.
func TestReadFaults(t *testing.T) {
	long := strings.Repeat("a", api.MaxLine)
	for _, c := range []struct {
		file, text string
		line       int
		code       api.Errno
		told       string
	}{
		{"f", "a\nb\xff", 2, api.ErrBytes, "f:2: error 30"},
		{"f", "a\nb\xff\n\xff", 2, api.ErrBytes, "f:2: error 30"},
		{"", "\x00", 1, api.ErrControl, "line 1: error 31"},
		{"g h", "\r\n" + mark + "\r\na\rb\r\n@", 3, api.ErrControl, "g h:3: error 31"},
		{"f", long + "\n" + long + "\r\n" + long + "a\n", 3, api.ErrWide, "f:3: error 32"},
		{"f", mark + "@", 1, api.ErrOrder, "f:1: error 33"},
		{"f", "a\n\n\n@a b: c\n\xff", 4, api.ErrOrder, "f:4: error 33"},
		{"f", "a\r", 1, api.ErrControl, "f:1: error 31"},
	} {
		got, err := lines.Read(c.file, c.text)
		var f *api.Fault
		if len(got) != 0 || !errors.As(err, &f) || *f != (api.Fault{File: c.file, Line: c.line, Code: c.code}) || err.Error() != c.told || !errors.Is(err, c.code) {
			t.Errorf("Read of %.20q = %v, %v", c.text, got, err)
		}
	}
}

// P3.5: Read is Scan of each line that Each tells.
func TestReadIsScanOfEach(t *testing.T) {
	pieces := []string{"a", ";", "#", "@", "x:", "\n", "\r", mark, "\x80"}
	for text := range trial.Joined(pieces, 5) {
		var want []api.Line
		var fault error
		for no, line := range lines.Each(text) {
			l, why := lines.Scan(no, line)
			if why != api.OK {
				want, fault = nil, &api.Fault{File: "f", Line: no, Code: why}
				break
			}
			want = append(want, l)
		}
		got, err := lines.Read("f", text)
		if fmt.Sprint(err) != fmt.Sprint(fault) || len(got) != len(want) || len(got) > 0 && !reflect.DeepEqual(got, want) {
			t.Fatalf("Read of %q = %v, %v, not %v, %v", text, got, err, want, fault)
		}
	}
}

// P3.12: two texts, one behind the other.
func TestLineByLine(t *testing.T) {
	var firsts, seconds []string
	for text := range trial.Joined([]string{"a", "\r", "\n", mark, "@x:"}, 3) {
		firsts = append(firsts, text+"\n", text+"\r\n")
		if !strings.HasPrefix(text, mark) {
			seconds = append(seconds, text)
		}
	}
	for _, first := range firsts {
		ahead := trial.Collect(lines.Each(first))
		for _, second := range seconds {
			want := slices.Clone(ahead)
			for no, line := range lines.Each(second) {
				want = append(want, numbered{A: len(ahead) + no, B: line})
			}
			if got := trial.Collect(lines.Each(first + second)); !slices.Equal(got, want) {
				t.Fatalf("Each of %q and %q tells %v, not %v", first, second, got, want)
			}
		}
	}
}

// P3.12: what a line is hangs on its bytes and its number alone.
func TestLineAlone(t *testing.T) {
	all := []string{"a;b # c", "# @missing: x", "@x: y", "", "# n", mark + "z", "  ;", "@x:"}
	for around := range trial.Words(all, 2) {
		for _, line := range all {
			text := around[0] + "\n" + line + "\r\n" + around[1] + "\n"
			want, _ := lines.Scan(2, line)
			if got, err := lines.Read("f", text); err != nil || len(got) != 3 || !reflect.DeepEqual(got[1], want) {
				t.Fatalf("Read of %q = %v, %v", text, got, err)
			}
		}
	}
}

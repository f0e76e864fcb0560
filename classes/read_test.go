package classes_test

import (
	"errors"
	"slices"
	"strings"
	"testing"

	"furrow/api"
	"furrow/classes"
	"furrow/lines"
	"furrow/points"
	"furrow/trial"
	"furrow/words"
)

// faultOf is the line that Read refuses, and why, found by holding each range against all those ahead; 0 and OK, if it refuses none.
func faultOf(text string) (int, api.Errno) {
	var f *api.Fault
	read, err := lines.Read("f", text)
	if errors.As(err, &f) {
		return f.Line, f.Code
	}
	var ahead []api.Range
	for _, l := range read {
		if l.Kind == api.LineBlank {
			continue
		}
		if l.Kind == api.LineOrder {
			return l.No, api.ErrOrder
		}
		if len(l.Fields) != 2 {
			return l.No, map[api.LineKind]api.Errno{api.LineData: api.ErrColumns, api.LineMissing: api.ErrMissing}[l.Kind]
		}
		r, why := points.Span(l.Fields[0])
		if why != api.OK {
			return l.No, why
		}
		if _, why := words.Class(l.Fields[1]); why != api.OK {
			return l.No, why
		}
		if l.Kind == api.LineMissing {
			continue
		}
		if slices.ContainsFunc(ahead, func(a api.Range) bool { return a.Lo <= r.Hi && r.Lo <= a.Hi }) {
			return l.No, api.ErrMeet
		}
		ahead = append(ahead, r)
	}
	return 0, api.OK
}

// isReadOrNot holds Read of text against a look through its lines, be it right or wrong; it tells which it was.
func isReadOrNot(t *testing.T, text string) (right bool) {
	t.Helper()
	line, why := faultOf(text)
	if why != api.OK {
		isRefused(t, "f", text, line, why)
		return false
	}
	isSaid(t, text)
	return true
}

// P7.1: the chapter's examples.
func TestRead(t *testing.T) {
	isSaid(t, example)
	isRefused(t, "f", example+"0035 ; L", 6, api.ErrMeet)
	isRefused(t, "f", "0041", 1, api.ErrColumns)
	isRefused(t, "f", "0041 ; X", 1, api.ErrNoClass)
	isRefused(t, "f", "0041 ; L ; R", 1, api.ErrColumns)
	isRefused(t, "f", "@Order: 1", 1, api.ErrOrder)
	isRefused(t, "f", "# @missing: 0041", 1, api.ErrMissing)
}

// nothings are texts without a line that says something.
func nothings() []string {
	return []string{"", "\n", "\r\n", "\n\n\n", " \t\n\t", "# n", "#", "# @missing", "# missing: 0041; R", "# 0041; R", "#@Missing: 0041; R", "# x @missing: 0041; R", mark, mark + "\n", mark + "# n\r\n\n#\n"}
}

// P7.1: texts of nothing, of blank lines and notes alone.
func TestReadNothing(t *testing.T) {
	for _, s := range nothings() {
		isSaid(t, s)
	}
}

// P7.1: another number of fields than two, of data and missing.
func TestReadFields(t *testing.T) {
	for _, kind := range []struct {
		ahead string
		why   api.Errno
	}{{"", api.ErrColumns}, {"# @missing: ", api.ErrMissing}, {" #@missing:", api.ErrMissing}} {
		for _, fields := range []string{"0041", "L", "x", "0041;L;R", "0041;L;", ";0041;L", "0041;;L", ";;", "0041;L;R;x", "x;y;z", "0041 L", "0041, L", strings.Repeat(";", 1000)} {
			isRefused(t, "f", text("", kind.ahead+fields), 2, kind.why)
			isRefused(t, "f", kind.ahead+fields+" # n ; n", 1, kind.why)
		}
		for _, fields := range []string{"0041;R", " 0041\t; R ", "0041 ;R# n", "0041;R # n ; n ; n", "0041;R#;"} {
			isSaid(t, kind.ahead+fields)
			if got := tableOf(t, kind.ahead+fields).Class(0x41); got != api.R {
				t.Errorf("%q: Class = %d", kind.ahead+fields, got)
			}
		}
	}
	for _, none := range []string{"# @missing:", "# @missing: ", "# @missing: # n", "# @missing: # 0041; R"} {
		isRefused(t, "f", none, 1, api.ErrMissing)
	}
}

// P7.1: ranges that may be, and such as may not, of data and missing.
func TestReadRanges(t *testing.T) {
	for _, ahead := range []string{"", "# @missing: "} {
		for _, span := range []string{"0000", "0041", "FFFF", "10000", "10FFFF", "D800", "DFFF", "D7FF..E000", "0041..0041", "0041..0042", "0000..10FFFF", "0000..0000", "10FFFF..10FFFF", "FFFF..10000"} {
			isSaid(t, ahead+span+"; R")
		}
		for span, why := range map[string]api.Errno{
			"": api.ErrHex, "41": api.ErrHex, "00041": api.ErrHex, "110000": api.ErrHex, "1000000": api.ErrHex, "004a": api.ErrHex, "ffff": api.ErrHex, "0x41": api.ErrHex, "U+0041": api.ErrHex, "-0041": api.ErrHex,
			"0041..": api.ErrHex, "..0041": api.ErrHex, "..": api.ErrHex, "0041.0042": api.ErrHex, "0041...0042": api.ErrHex, "0041..0042..0043": api.ErrHex, "0041 ..0042": api.ErrHex, "0041.. 0042": api.ErrHex, "0041..004f": api.ErrHex, "0041-0042": api.ErrHex, "0041..110000": api.ErrHex, "0041 0042": api.ErrHex, mark + "0041": api.ErrHex,
			"0042..0041": api.ErrRange, "10FFFF..0000": api.ErrRange, "10000..FFFF": api.ErrRange, "0001..0000": api.ErrRange,
		} {
			isRefused(t, "f", text("# n", ahead+span+"; R"), 2, why)
		}
	}
}

// P7.1: classes by all of their names, and what names none, of data and missing.
func TestReadNames(t *testing.T) {
	for _, ahead := range []string{"", "# @missing: "} {
		for i := range shortNames {
			for _, name := range []string{shortNames[i], longNames[i]} {
				for _, dressed := range []string{name, strings.ToLower(name), strings.ToUpper(name), strings.ReplaceAll(name, "_", " "), strings.ReplaceAll(name, "_", "-"), strings.ReplaceAll(name, "_", ""), "_" + name + "-", strings.Join(strings.Split(name, ""), "_"), strings.Join(strings.Split(name, ""), "\t ")} {
					if got := tableOf(t, ahead+"0041; "+dressed+" # n").Class(0x41); got != api.Class(i+1) {
						t.Fatalf("%q: Class = %d", dressed, got)
					}
				}
			}
		}
		for _, none := range []string{"", "X", "_", "LL", "Left", "Left|To|Right", "Left.To.Right", "L R", "L,R", "L|R", "1", "0", "Left_To_Right_", "Left_To_Rights", "ﬁ", "Ｌ", "É", "\ufffd", "o", "None"} {
			if classNamed(none) == 0 {
				isRefused(t, "f", text(ahead+"0041; "+none), 1, api.ErrNoClass)
			}
		}
	}
}

// P7.1: of a line with two things wrong the first in the promise's order; what a line is asked last is whether it meets one ahead.
func TestReadOneLineTwiceWrong(t *testing.T) {
	for line, why := range map[string]api.Errno{
		"x": api.ErrColumns, "x;X;y": api.ErrColumns, "0041;L;": api.ErrColumns, "0042..0041": api.ErrColumns,
		"x;X": api.ErrHex, "0042..0041;X": api.ErrRange, "0042..41;X": api.ErrHex, ";": api.ErrHex, "0041;": api.ErrNoClass, "0041;X": api.ErrNoClass, "0041;L": api.ErrMeet, "0041..0042;L": api.ErrMeet, "0042..0041;L": api.ErrRange, "0041;L;L": api.ErrColumns,
		"@x: 0041": api.ErrOrder, "@x: x; X": api.ErrOrder, "@x:": api.ErrOrder, "@x": api.ErrOrder,
		"# @missing: x": api.ErrMissing, "# @missing: x;X;y": api.ErrMissing, "# @missing: x;X": api.ErrHex, "# @missing: 0042..0041;X": api.ErrRange, "# @missing: ;": api.ErrHex, "# @missing: 0041;": api.ErrNoClass,
	} {
		isRefused(t, "f", text("0041; R", "# @missing: 0041; R", line), 3, why)
	}
}

// P7.1: of two lines the first that is wrong; a line that lines.Read refuses ahead of all, wherever it stands.
func TestReadFirstFault(t *testing.T) {
	wrong := map[string]api.Errno{
		"0041": api.ErrColumns, "x;L": api.ErrHex, "0042..0041; L": api.ErrRange, "0042; X": api.ErrNoClass, "0050; L": api.ErrMeet, "@x: y": api.ErrOrder, "# @missing:": api.ErrMissing, "# @missing: x;L": api.ErrHex, "# @missing: 0041;X": api.ErrNoClass,
	}
	for a, why := range wrong {
		for b := range wrong {
			isRefused(t, "f", text("0050; R", a, "", b), 2, why)
			isRefused(t, "f", text("0050; R", "# n", "0051; L", "# @missing: 0050; R", a, b), 5, why)
		}
		for b, why := range map[string]api.Errno{"\xff": api.ErrBytes, "# \x80": api.ErrBytes, "0041; L\x00": api.ErrControl, "@x": api.ErrOrder, "@": api.ErrOrder, strings.Repeat("é", 4097): api.ErrWide} {
			isRefused(t, "f", text("0050; R", a, b), 3, why)
			isRefused(t, "f", text("0050; R", a, "", "0060; R", b, a), 5, why)
			isRefused(t, "f", text(b, a), 1, why)
		}
	}
}

// P7.1: an order is no line of this file, wherever it stands.
func TestReadOrder(t *testing.T) {
	for _, order := range []string{"@x: y", "@x:", " \t@x-Y_9: a; b # n", "@missing: 0041; R"} {
		isRefused(t, "f", order, 1, api.ErrOrder)
		isRefused(t, "f", text(example, order, "0041; R"), 7, api.ErrOrder)
	}
	isSaid(t, "# @x: y")
}

// P7.1: a range that meets one ahead, and one that only stands next to it; what a missing line has is no range that is met.
func TestReadMeets(t *testing.T) {
	for _, class := range []string{"R", "L"} {
		for _, span := range []string{"0040..0042", "0042", "0042..0048", "0042..0044", "0043", "0044", "0043..0044", "0045..0046", "0044..0048", "0045..0050", "0046", "0046..0047", "0041..0047", "0000..10FFFF", "0042..0046"} {
			isRefused(t, "f", text("0042..0046; R", span+"; "+class), 2, api.ErrMeet)
			isRefused(t, "f", text("0060; R", "0042..0046; R", "0020; L", "", "# @missing: 0042; AL", span+"; "+class), 6, api.ErrMeet)
			isRefused(t, "f", text(span+"; "+class, "# n", "0042..0046; R"), 3, api.ErrMeet)
			isSaid(t, text("0042..0046; R", "# @missing: "+span+"; "+class))
			isSaid(t, text("# @missing: "+span+"; "+class, "0042..0046; R"))
			isSaid(t, text("# @missing: "+span+"; "+class, "# @missing: 0042..0046; R"))
		}
		for _, span := range []string{"0041", "0047", "0000..0041", "0047..10FFFF", "0040", "0048"} {
			isSaid(t, text("0042..0046; R", span+"; "+class))
			isSaid(t, text(span+"; "+class, "0042..0046; R"))
		}
	}
	isRefused(t, "f", text("0000..10FFFF; L", "0000; L"), 2, api.ErrMeet)
	isRefused(t, "f", text("0000..10FFFF; L", "10FFFF; R"), 2, api.ErrMeet)
	isRefused(t, "f", text("0041; L", "0043; L", "0042; L", "0042; L"), 4, api.ErrMeet)
	isRefused(t, "f", text("0041; L", "0043; L", "0041..0043; L"), 3, api.ErrMeet)
}

// P7.1: the fault tells the file as it is handed in.
func TestReadFiles(t *testing.T) {
	for _, file := range []string{"", "f", "g h", "\xff", "f:1", strings.Repeat("f", 5000)} {
		isRefused(t, file, "0041", 1, api.ErrColumns)
		isRefused(t, file, "\n\xff", 2, api.ErrBytes)
	}
	if _, err := classes.Read("f", "\n0041"); err == nil || err.Error() != "f:2: error 70" {
		t.Errorf("told as %v", err)
	}
	if _, err := classes.Read("", "# @missing: 0041"); err == nil || err.Error() != "line 1: error 71" {
		t.Errorf("told as %v", err)
	}
}

// someLines are lines of which texts are made.
func someLines() []string {
	return []string{
		"", "# n",
		"# @missing: 0000..10FFFF; Other Neutral", "# @missing: 0040..0047; R", "# @missing: 0042..0043; AL", "# @missing: 0043..0050; R", "# @missing: 0043; L",
		"0041; R", "0042; R", "0042; L", "0043..0045; AL", "0044; R", "0040..0046; L", "0046; L", "0046..0047; AL", "FFFD; EN", "0000; AN", "10FFFF; L",
		"0041", "@x: y", "# @missing: x; L", "0048; X", "0048; L\xff",
	}
}

// P7.1 to P7.5: all texts of up to three lines, and of four of the twelve that are right by themselves and lie close together.
func TestReadAllTexts(t *testing.T) {
	good := 0
	for size := range 4 {
		for word := range trial.Words(someLines(), size) {
			if isReadOrNot(t, text(word...)) {
				good++
			}
		}
	}
	for word := range trial.Words(someLines()[2:14], 4) {
		if isReadOrNot(t, text(word...)) {
			good++
		}
	}
	if good < 5000 {
		t.Errorf("only %d texts can be read", good)
	}
}

// P7.1 to P7.5: longer texts, whose naming lines do not rise and meet now and then.
func TestReadLongerTexts(t *testing.T) {
	next := trial.Numbers()
	pick := func(n int) int { return int(next()>>8) % n }
	good := 0
	for range 1500 {
		var list []string
		for range pick(16) {
			lo := rune(pick(400))
			line := spanOf(lo, lo+rune(pick(12))) + []string{";", " ; ", "\t;"}[pick(3)] + shortNames[pick(len(shortNames))]
			switch pick(4) {
			case 0:
				line = "# @missing: " + spanOf(lo, lo+rune(pick(200))) + "; " + longNames[pick(4)]
			case 1:
				list = append(list, nothings()[pick(9)])
			}
			list = append(list, line+[]string{"", " # n", "\r"}[pick(3)])
		}
		if isReadOrNot(t, text(list...)) {
			good++
		}
	}
	if good < 300 || good > 1400 {
		t.Errorf("%d texts can be read", good)
	}
}

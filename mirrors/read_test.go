package mirrors_test

import (
	"slices"
	"strings"
	"testing"

	"furrow/api"
	"furrow/mirrors"
	"furrow/trial"
)

// isRead holds Read of text against the mirrors.
func isRead(t *testing.T, text string, want ...api.Mirror) {
	t.Helper()
	if l := readWhole(t, text); !slices.Equal(l, want) {
		t.Fatalf("Read of %q = %v, not %v", text, l, want)
	}
}

// isReadOrNot holds Read of text against a look through its lines, be it right or wrong; what is read is printed, and read again. It tells which it was.
func isReadOrNot(t *testing.T, text string) (right bool) {
	t.Helper()
	want, line, why := readOf(text)
	if why != api.OK {
		isRefused(t, "f", text, line, why)
		return false
	}
	isRead(t, text, want...)
	again := readWhole(t, isPrinted(t, want))
	if !slices.Equal(withoutLines(again), withoutLines(want)) {
		t.Fatalf("%v is printed, and read as %v", want, again)
	}
	return true
}

// P9.3: the chapter's example, and an ordinary text.
func TestRead(t *testing.T) {
	isRefused(t, "f", "0028; 0029\n0029; 002A", 1, api.ErrTwist)
	isRead(t, "# mirrors\n\n0028; 0029 # LEFT\n0029; 0028 # [BEST FIT] RIGHT\n",
		api.Mirror{Line: 3, From: 0x28, To: 0x29}, api.Mirror{Line: 4, From: 0x29, To: 0x28, Best: true})
	isRead(t, mark+"\r\n00BB;00AB\r\n\t00AB ;\t00BB#[BEST FIT]",
		api.Mirror{Line: 2, From: 0xBB, To: 0xAB}, api.Mirror{Line: 3, From: 0xAB, To: 0xBB, Best: true})
	isRead(t, "10FFFF; 0000\nD800; DFFF\n0000; 10FFFF\nDFFF; D800\n",
		api.Mirror{Line: 1, From: api.MaxRune}, api.Mirror{Line: 2, From: 0xD800, To: 0xDFFF}, api.Mirror{Line: 3, To: api.MaxRune}, api.Mirror{Line: 4, From: 0xDFFF, To: 0xD800})
}

// nothings are texts without a mirror's line.
func nothings() []string {
	return []string{"", "\n", "\r\n", "\n\n\n", " \t\n\t", "#", "# n", "# 0028; 0029", "# [BEST FIT]", "# @missing: 0028; 0029", "# @missing:", "# @missing: x", "#@missing: 0000..10FFFF; <none>\n", mark, mark + "# n\r\n\n#\n", "# @missing: ;;;;\n# @missing: 0028;0028"}
}

// P9.3: a text of nothing, of blank lines, notes and missing lines alone; and these between mirrors.
func TestReadNothing(t *testing.T) {
	for _, s := range nothings() {
		isRead(t, s)
		s = strings.TrimPrefix(s, mark) // it is one at a text's beginning alone
		l := readWhole(t, text("0028;0029", s, "0029;0028"))
		if !slices.Equal(withoutLines(l), pairs('(', ')')) || l[0].Line != 1 || l[1].Line != 3+strings.Count(s, "\n") {
			t.Errorf("with %q between, they are %v", s, l)
		}
	}
	isRefused(t, "f", text("0028;0029", mark, "0029;0028"), 2, api.ErrCells)
}

// P9.3: a line that lines.Read refuses comes first, ahead of and behind one that Scan or Check refuses.
func TestReadLineFaults(t *testing.T) {
	for wrong, why := range map[string]api.Errno{
		"\xff": api.ErrBytes, "# \x80": api.ErrBytes, "0040; 0041 # \xed\xa0\x80": api.ErrBytes, "# @missing: \xc3": api.ErrBytes,
		"0040; 0041\x00": api.ErrControl, "\x7f": api.ErrControl, "0040;\r0041": api.ErrControl,
		"@x": api.ErrOrder, "@: x": api.ErrOrder, strings.Repeat("é", api.MaxLine+1): api.ErrWide,
	} {
		for _, other := range []string{"0028", "0028; x", "@x: y", "0028; 0028", "0028; 0029", "0028; 0029\n0028; 0029", "# n", ""} {
			isRefused(t, "f", text(other, wrong), 2+strings.Count(other, "\n"), why)
			isRefused(t, "f", text(wrong, other), 1, why)
			isRefused(t, "f", text("0028; 0029", "0029; 0028", "", wrong, other), 4, why)
		}
	}
	isRefused(t, "f", "\xff\n\x01\n@x", 1, api.ErrBytes)
	isRefused(t, "f", "@x\n\xff", 1, api.ErrOrder)
}

// scanFaults are lines that Scan refuses, and why.
func scanFaults() map[string]api.Errno {
	return map[string]api.Errno{
		"0028": api.ErrCells, "0028; 0029; 002A": api.ErrCells, "x": api.ErrCells, "0028 0029": api.ErrCells, "0028; 0029;": api.ErrCells, ";;": api.ErrCells,
		"28; 0029": api.ErrHex, "0028; x": api.ErrHex, ";": api.ErrHex, "0028;": api.ErrHex, "0028; 110000": api.ErrHex, "00ab; 00BB": api.ErrHex,
		"@x: y": api.ErrOrder, "@x:": api.ErrOrder, "\t@missing: 0028; 0029": api.ErrOrder,
	}
}

// P9.3: of the lines that Scan refuses the first; one that Check refuses counts only where Scan refuses none.
func TestReadScanFaults(t *testing.T) {
	for first, why := range scanFaults() {
		isRefused(t, "f", first, 1, why)
		isRefused(t, "f", text("", "# n", "# @missing: x", first+" # n ; n", ""), 4, why)
		for second := range scanFaults() {
			isRefused(t, "f", text("0028; 0029", first, second), 2, why)
		}
		for _, other := range []string{"0028; 0028", "0028; 0029", "0028; 0029\n0028; 0029", "0029; 0028"} {
			isRefused(t, "f", text(other, first), 2+strings.Count(other, "\n"), why)
			isRefused(t, "f", text(first, other), 1, why)
		}
	}
}

// P9.3: what Check refuses, told by the line of the one that it calls wrong, behind lines that say nothing.
func TestReadChecked(t *testing.T) {
	for _, c := range []struct {
		text string
		line int
		why  api.Errno
	}{
		{"0028; 0029", 1, api.ErrTwist},
		{"\n# n\n\n# @missing: 0029; 0028\n0028; 0029\n", 5, api.ErrTwist},
		{mark + "\r\n\r\n0028; 0029\r\n", 3, api.ErrTwist},
		{"\n0028; 0029\n\n0029; 0028\n\n\n0040; 0041\n0050; 0051", 7, api.ErrTwist},
		{"0028; 0028", 1, api.ErrSelf},
		{"0028; 0029\n\n\n0030; 0030\n", 4, api.ErrSelf},
		{"0028; 0029\n0029; 0028\n0028; 0029", 3, api.ErrAgain},
		{"\n0028; 0029\n# n\n0028; 0028", 4, api.ErrSelf},
		{"0028; 0029\n# n\n0028; 0030\n0030; 0030", 3, api.ErrAgain},
		{"0000; 0001", 1, api.ErrTwist},
	} {
		isRefused(t, "f", c.text, c.line, c.why)
	}
}

// P9.3: the fault tells the file as it is handed in.
func TestReadFiles(t *testing.T) {
	for _, file := range []string{"", "f", "g h", "\xff", "f:1", strings.Repeat("f", 5000)} {
		isRefused(t, file, "\n\xff", 2, api.ErrBytes)
		isRefused(t, file, "0028", 1, api.ErrCells)
		isRefused(t, file, "\n\n0028; 0029", 3, api.ErrTwist)
	}
	if _, err := mirrors.Read("f", "\n0028"); err == nil || err.Error() != "f:2: error 60" {
		t.Errorf("told as %v", err)
	}
	if _, err := mirrors.Read("", "0028;0029"); err == nil || err.Error() != "line 1: error 90" {
		t.Errorf("told as %v", err)
	}
}

// someLines are lines of which texts are made.
func someLines() []string {
	return []string{
		"0028; 0029", "0029;0028 # [BEST FIT]", "005B; 005D # n", "005D;005B", "0000; 10FFFF # [BEST FIT] n", "10FFFF; 0000", "0028; 005D", "005D; 0028",
		"", "# n", "# @missing: 0000..10FFFF; <none>",
		"0028; 0028", "0028", "0028; 0029; 002A", "28; 0029", "0028; 29", "@x: y", "@x", "0040; 0041\xff",
	}
}

// P9.3, P9.7: all texts of up to three lines, and of four of the eleven that are right by themselves.
func TestReadAllTexts(t *testing.T) {
	good := 0
	try := func(letters []string, size int) {
		for word := range trial.Words(letters, size) {
			if isReadOrNot(t, text(word...)) {
				good++
			}
		}
	}
	for size := range 4 {
		try(someLines(), size)
	}
	try(someLines()[:11], 4)
	if good < 400 {
		t.Errorf("only %d texts are mirrors", good)
	}
}

// P9.3, P9.7: longer texts, with lines that say nothing between, and a wrong one now and then.
func TestReadLongerTexts(t *testing.T) {
	next := trial.Numbers()
	pick := func(n int) int { return int(next()>>8) % n }
	good := 0
	for range 1500 {
		var list []string
		for i := range pick(12) {
			at := rune(0x100 + 2*i)
			if pick(12) == 0 {
				at = rune(0x100 + 2*pick(12))
			}
			for _, line := range strings.SplitAfter(printedOf(pairs(at, at+1)), "\n")[:2] {
				note := []string{"", " # n", "\r", " # [BEST FIT]"}[pick(4)]
				list = slices.Insert(list, pick(len(list)+1), strings.TrimSuffix(line, "\n")+note)
			}
			if pick(3) == 0 {
				list = append(list, nothings()[pick(13)])
			}
			if pick(40) == 0 {
				list = slices.Insert(list, pick(len(list)+1), someLines()[11+pick(8)])
			}
			if pick(40) == 0 {
				at := pick(len(list))
				list = slices.Delete(list, at, at+1)
			}
		}
		if isReadOrNot(t, text(list...)) {
			good++
		}
	}
	if good < 300 || good > 1400 {
		t.Errorf("%d texts are mirrors", good)
	}
}

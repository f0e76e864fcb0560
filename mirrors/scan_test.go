package mirrors_test

import (
	"slices"
	"strings"
	"testing"

	"furrow/api"
	"furrow/lines"
	"furrow/mirrors"
	"furrow/trial"
)

// line is the line that lines.Scan tells.
func line(t *testing.T, s string) api.Line {
	t.Helper()
	l, why := lines.Scan(7, s)
	if why != api.OK {
		t.Fatalf("%q is no line: %d", s, why)
	}
	return l
}

// isMirror holds Scan of l against that mirror.
func isMirror(t *testing.T, l api.Line, want api.Mirror) {
	t.Helper()
	if m, why := mirrors.Scan(l); m != want || why != api.OK {
		t.Fatalf("Scan of %v = %v, %d, not %v", l, m, why, want)
	}
}

// isNone holds Scan of l against that error, with nothing beside it.
func isNone(t *testing.T, l api.Line, want api.Errno) {
	t.Helper()
	if m, why := mirrors.Scan(l); m != (api.Mirror{}) || why != want {
		t.Fatalf("Scan of %v = %v, %d, not %d", l, m, why, want)
	}
}

// noPoints are texts that are no code points.
func noPoints() []string {
	return []string{"", "x", "28", "028", "00028", "010FFFF", "110000", "FFFFFF", "1000000", "002b", "0x28", "U+0028", "-0028", "+0028", "0028..0029", "0028 0029", "0028 ", " 0028", "(", "\ufffd", "００２８", "\xff\xff\xff\xff"}
}

// P9.1: the chapter's examples.
func TestScan(t *testing.T) {
	isMirror(t, line(t, "0028; 0029 # LEFT PARENTHESIS"), api.Mirror{Line: 7, From: 0x28, To: 0x29})
	isMirror(t, line(t, "2298; 29B8 # [BEST FIT] X"), api.Mirror{Line: 7, From: 0x2298, To: 0x29B8, Best: true})
	isNone(t, line(t, "0028"), api.ErrCells)
	isNone(t, line(t, "0028; 0029; 002A"), api.ErrCells)
	isNone(t, line(t, "0028; x"), api.ErrHex)
}

// P9.1: lines of each kind, and of kinds that are none.
func TestScanKinds(t *testing.T) {
	for kind := range 256 {
		for _, fields := range [][]string{nil, {"0028"}, {"0028", "0029"}, {"0028", "x"}, {"x", "0029"}, {"0028", "0029", "002A"}} {
			l := api.Line{No: 3, Kind: api.LineKind(kind), Name: "n", Fields: fields, Note: "[BEST FIT]"}
			switch {
			case l.Kind == api.LineOrder:
				isNone(t, l, api.ErrOrder)
			case l.Kind != api.LineData || len(fields) != 2:
				isNone(t, l, api.ErrCells)
			case slices.Contains(fields, "x"):
				isNone(t, l, api.ErrHex)
			default:
				isMirror(t, l, api.Mirror{Line: 3, From: 0x28, To: 0x29, Best: true})
			}
		}
	}
	isNone(t, line(t, ""), api.ErrCells)
	isNone(t, line(t, "# 0028; 0029"), api.ErrCells)
	isNone(t, line(t, "# @missing: 0028; 0029"), api.ErrCells)
	isNone(t, line(t, "@x: 0028; 0029"), api.ErrOrder)
	isNone(t, api.Line{}, api.ErrCells)
}

// P9.1: another number of fields than two, whatever they are.
func TestScanFieldCounts(t *testing.T) {
	for size := range 6 {
		for fields := range trial.Words([]string{"0028", "0029", "", "x"}, size) {
			l := api.Line{Kind: api.LineData, Fields: fields}
			if size != 2 {
				isNone(t, l, api.ErrCells)
			} else if slices.Contains(fields, "") || slices.Contains(fields, "x") {
				isNone(t, l, api.ErrHex)
			} else if _, why := mirrors.Scan(l); why != api.OK {
				t.Errorf("Scan of %q: %d", fields, why)
			}
		}
	}
	isNone(t, api.Line{Kind: api.LineData, Fields: make([]string, 5000)}, api.ErrCells)
	isNone(t, line(t, ";"), api.ErrHex)
	isNone(t, line(t, "0028 0029"), api.ErrCells)
	isNone(t, line(t, "0028 # ; 0029"), api.ErrCells)
}

// P9.1: a first field, a second one, and both, that are no code points.
func TestScanNoPoints(t *testing.T) {
	for _, none := range noPoints() {
		for _, fields := range [][]string{{none, "0029"}, {"0028", none}, {none, none}, {none, "x"}} {
			isNone(t, api.Line{Kind: api.LineData, Fields: fields, Note: "[BEST FIT]"}, api.ErrHex)
		}
	}
}

// P9.1: code points at the edges, surrogates too; the two may be one, as Check alone tells.
func TestScanPoints(t *testing.T) {
	points := map[string]rune{"0000": 0, "0009": 9, "FFFD": 0xFFFD, "FFFF": 0xFFFF, "10000": 0x10000, "D800": 0xD800, "DFFF": 0xDFFF, "ABCDE": 0xABCDE, "10FFFF": 0x10FFFF}
	for first, from := range points {
		for second, to := range points {
			isMirror(t, api.Line{Kind: api.LineData, Fields: []string{first, second}}, api.Mirror{From: from, To: to})
		}
	}
}

// P9.1: what a note must be for the best.
func TestScanNotes(t *testing.T) {
	for note, best := range map[string]bool{
		"[BEST FIT]": true, "[BEST FIT] X": true, "[BEST FIT]X": true, "[BEST FIT][BEST FIT]": true, "[BEST FIT]\xff": true, "[BEST FIT] # n": true,
		"": false, "X [BEST FIT]": false, "X[BEST FIT]": false, " [BEST FIT]": false, "\t[BEST FIT]": false, mark + "[BEST FIT]": false, "# [BEST FIT]": false,
		"[best fit]": false, "[Best Fit]": false, "[BEST fit]": false, "[bEST FIT]": false, "[BEST FIT": false, "BEST FIT]": false, "BEST FIT": false, "[BEST  FIT]": false, "[BESTFIT]": false, "[BEST\tFIT]": false, "[BEST\u00A0FIT]": false, "[BEST_FIT]": false, "[": false,
	} {
		l := api.Line{No: 1, Kind: api.LineData, Fields: []string{"0028", "0029"}, Note: note}
		isMirror(t, l, api.Mirror{Line: 1, From: 0x28, To: 0x29, Best: best})
	}
	for s, best := range map[string]bool{
		"0028;0029#[BEST FIT]": true, "0028;0029 # \t [BEST FIT] n": true, "0028; 0029": false, "0028; 0029 # # [BEST FIT]": false, "0028; 0029 # n [BEST FIT]": false,
	} {
		isMirror(t, line(t, s), api.Mirror{Line: 7, From: 0x28, To: 0x29, Best: best})
	}
}

// P9.1: the Line is the line's number, whatever that is; the name counts for nothing.
func TestScanNumbers(t *testing.T) {
	for _, no := range []int{0, 1, -1, 4096, least, most, -1 << 63, 1<<63 - 1} {
		for _, name := range []string{"", "n", "\xff", strings.Repeat("n", 5000)} {
			isMirror(t, api.Line{No: no, Kind: api.LineData, Name: name, Fields: []string{"0028", "0029"}}, api.Mirror{Line: no, From: 0x28, To: 0x29})
		}
	}
}

package mirrors_test

import (
	"errors"
	"fmt"
	"slices"
	"strings"
	"testing"
	"unicode/utf8"

	"furrow/api"
	"furrow/lines"
	"furrow/mirrors"
)

const (
	beyond = api.MaxRune + 1
	mark   = "\uFEFF"
	least  = -1 << 31
	most   = 1<<31 - 1
)

// turns is mirrors one by one, each told by its From and its To.
func turns(numbers ...rune) []api.Mirror {
	var out []api.Mirror
	for two := range slices.Chunk(numbers, 2) {
		out = append(out, api.Mirror{From: two[0], To: two[1]})
	}
	return out
}

// pairs is mirrors there and back, each told by its two numbers.
func pairs(numbers ...rune) []api.Mirror {
	var out []api.Mirror
	for two := range slices.Chunk(numbers, 2) {
		out = append(out, turns(two[0], two[1], two[1], two[0])...)
	}
	return out
}

// examples is the list M of the chapter.
func examples() []api.Mirror { return pairs(0x28, 0x29, 0xAB, 0xBB) }

// wrongOf is the place and the error that Check must answer, found by holding each mirror against all others.
func wrongOf(l []api.Mirror) (int, api.Errno) {
	for i, m := range l {
		if min(m.From, m.To) < 0 || max(m.From, m.To) > 0x10FFFF {
			return i, api.ErrArg
		}
		if m.From == m.To {
			return i, api.ErrSelf
		}
		if slices.ContainsFunc(l[:i], func(n api.Mirror) bool { return n.From == m.From }) {
			return i, api.ErrAgain
		}
	}
	for i, m := range l {
		if !slices.ContainsFunc(l, func(n api.Mirror) bool { return n.From == m.To && n.To == m.From }) {
			return i, api.ErrTwist
		}
	}
	return 0, api.OK
}

// ofOf is what Of must answer: the last that is met from behind is the first.
func ofOf(l []api.Mirror, r rune) (rune, bool) {
	to, is := r, false
	for _, m := range slices.Backward(l) {
		if m.From == r {
			to, is = m.To, true
		}
	}
	return to, is
}

// textOf is what Text must answer, character by character.
func textOf(l []api.Mirror, text string) (string, int) {
	var out []byte
	count := 0
	for text != "" {
		r, width := utf8.DecodeRuneInString(text)
		to, is := ofOf(l, r)
		if is && !(r == utf8.RuneError && width == 1) {
			out = utf8.AppendRune(out, to)
			count++
		} else {
			out = append(out, text[:width]...)
		}
		text = text[width:]
	}
	return string(out), count
}

// printedOf is what Print must answer of mirrors that may be.
func printedOf(l []api.Mirror) string {
	out := ""
	for _, m := range l {
		out += fmt.Sprintf("%04X; %04X%s\n", m.From, m.To, map[bool]string{true: " # [BEST FIT]"}[m.Best])
	}
	return out
}

// readOf is what Read must answer: the mirrors; or the line that is refused, and why.
func readOf(text string) (l []api.Mirror, line int, why api.Errno) {
	var f *api.Fault
	read, err := lines.Read("f", text)
	if errors.As(err, &f) {
		return nil, f.Line, f.Code
	}
	for _, line := range read {
		if line.Kind == api.LineBlank || line.Kind == api.LineMissing {
			continue
		}
		m, why := mirrors.Scan(line)
		if why != api.OK {
			return nil, line.No, why
		}
		l = append(l, m)
	}
	if at, why := wrongOf(l); why != api.OK {
		return nil, l[at].Line, why
	}
	return l, 0, api.OK
}

// isChecked holds Check of l against that place and error.
func isChecked(t *testing.T, l []api.Mirror, at int, why api.Errno) {
	t.Helper()
	if gotAt, got := mirrors.Check(l...); gotAt != at || got != why {
		t.Fatalf("Check of %v = %d, %d, not %d, %d", l, gotAt, got, at, why)
	}
}

// isPrinted holds Print of l, which may be, against its lines.
func isPrinted(t *testing.T, l []api.Mirror) string {
	t.Helper()
	got, why := mirrors.Print(l...)
	if got != printedOf(l) || why != api.OK {
		t.Fatalf("Print of %v = %q, %d", l, got, why)
	}
	return got
}

// isText holds Text against a look at each character.
func isText(t *testing.T, l []api.Mirror, text string) (string, int) {
	t.Helper()
	got, count := mirrors.Text(l, text)
	if want, wantCount := textOf(l, text); got != want || count != wantCount {
		t.Fatalf("Text of %q by %v = %q, %d, not %q, %d", text, l, got, count, want, wantCount)
	}
	return got, count
}

// readWhole is the mirrors of a text that Read reads.
func readWhole(t *testing.T, text string) []api.Mirror {
	t.Helper()
	l, err := mirrors.Read("f", text)
	if err != nil {
		t.Fatalf("Read of %q = %v, %v", text, l, err)
	}
	return l
}

// isRefused holds Read of text against that fault, and nothing beside it.
func isRefused(t *testing.T, file, text string, line int, why api.Errno) {
	t.Helper()
	l, err := mirrors.Read(file, text)
	var f *api.Fault
	if len(l) != 0 || !errors.As(err, &f) || *f != (api.Fault{File: file, Line: line, Code: why}) || !errors.Is(err, why) {
		t.Fatalf("Read of %q = %v, %v, not the line %d: %d", text, l, err, line, why)
	}
}

// withoutLines is l with each Line 0.
func withoutLines(l []api.Mirror) []api.Mirror {
	out := slices.Clone(l)
	for i := range out {
		out[i].Line = 0
	}
	return out
}

// text is the lines, an end between two.
func text(lines ...string) string { return strings.Join(lines, "\n") }

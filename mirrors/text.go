package mirrors

import (
	"strings"

	"furrow/api"
	"furrow/utf"
)

// finder is how the place of the first of l that has a From is found, when it is asked more than once.
func finder(l []api.Mirror) func(from rune) (place int, is bool) {
	places := make(map[rune]int, len(l))
	for place, m := range l {
		if _, is := places[m.From]; !is {
			places[m.From] = place
		}
	}
	return func(from rune) (int, bool) {
		place, is := places[from]
		return place, is
	}
}

// Of is the mirror of r, which is asked as it is, and true; r and false, if l has none.
func Of(l []api.Mirror, r rune) (rune, bool) {
	for _, m := range l { // a map would cost more than it spares: it is asked once
		if m.From == r {
			return m.To, true
		}
	}
	return r, false
}

// Text is text with its mirror in the place of each character that has one, and how many these are.
func Text(l []api.Mirror, text string) (string, int) {
	find := finder(l)
	var out strings.Builder
	done, count := 0, 0 // the bytes ahead of done are in out
	for at, r := range text {
		place, is := find(r)
		if !is || isWrongByte(text, at, r) {
			continue
		}
		out.WriteString(text[done:at])
		out.WriteString(utf.Encode(l[place].To))
		done = at + utf.Width(r)
		count++
	}
	out.WriteString(text[done:])
	return out.String(), count
}

// isWrongByte tells a byte that stands for no character from a right FFFD: a range tells both as FFFD, but of unlike widths.
func isWrongByte(text string, at int, r rune) bool {
	return r == api.Replaced && utf.First(text[at:]).Width == 1
}

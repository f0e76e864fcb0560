package mirrors

import (
	"strings"

	"furrow/api"
	"furrow/points"
)

const (
	between = "; "  // the two numbers of a line
	noteBy  = " # " // what stands ahead of a line's note
	lineEnd = "\n"
)

// Check is 0 and OK, if l may be; else the place of the first that is wrong by itself or by those ahead of it, or, if there is none such, of the first that is not led back to; and why.
func Check(l ...api.Mirror) (int, api.Errno) {
	find := finder(l)
	for place, m := range l {
		if why := whyWrong(m); why != api.OK {
			return place, why
		}
		if first, _ := find(m.From); first < place {
			return place, api.ErrAgain
		}
	}
	for place, m := range l { // what leads back may stand behind it, so this is asked when all else is well
		if back, is := find(m.To); !is || l[back].To != m.From {
			return place, api.ErrTwist
		}
	}
	return 0, api.OK
}

// whyWrong is why m may not be, whatever stands beside it.
func whyWrong(m api.Mirror) api.Errno {
	if !isPoint(m.From) || !isPoint(m.To) {
		return api.ErrArg
	}
	if m.From == m.To {
		return api.ErrSelf
	}
	return api.OK
}

func isPoint(r rune) bool {
	return r >= 0 && r <= api.MaxRune
}

// Print is a line for each of l; Check's error, if they may not be.
func Print(l ...api.Mirror) (string, api.Errno) {
	if _, why := Check(l...); why != api.OK {
		return "", why
	}
	var text strings.Builder
	for _, m := range l {
		text.WriteString(written(m))
	}
	return text.String(), api.OK
}

// written is the line of m. What Check takes has digits.
func written(m api.Mirror) string {
	from, _ := points.Show(m.From)
	to, _ := points.Show(m.To)
	line := from + between + to
	if m.Best {
		line += noteBy + bestSign
	}
	return line + lineEnd
}

package paras

import "furrow/api"

// alone is what Match tells of a place that belongs to no other one.
const alone = -1

// Match tells of each place to which other one it belongs: of an isolate beginning its PDI (the length of the list, if it has none), of a PDI its beginning, else -1.
func Match(classes []api.Class) []int {
	match := make([]int, len(classes))
	var pile []int // the beginnings that may have their end yet
	for at, class := range classes {
		match[at] = alone
		switch {
		case begins(class):
			match[at] = len(classes) // till its end is met
			pile = append(pile, at)
		case class == api.PDI && len(pile) > 0:
			top := len(pile) - 1
			match[at], match[pile[top]] = pile[top], at
			pile = pile[:top]
		case class == api.B:
			pile = pile[:0]
		}
	}
	return match
}

// First is the place of the first strong one of the piece s, and true; false, if there is none. ErrArg, if s is no piece of the list.
func First(classes []api.Class, s api.Piece) (int, bool, api.Errno) {
	if s.From < 0 || s.To < s.From || s.To > len(classes) {
		return 0, false, api.ErrArg
	}
	at, is := firstStrong(classes[s.From:s.To])
	if !is {
		return 0, false, api.OK
	}
	return s.From + at, true, api.OK
}

// Level is the level of a paragraph of these classes at the base b; ErrArg, if b is no base.
func Level(classes []api.Class, b api.Base) (api.Level, api.Errno) {
	switch b {
	case api.Left:
		return 0, api.OK
	case api.Right:
		return 1, api.OK
	case api.Auto:
		at, is := firstStrong(classes)
		if is && classes[at] != api.L {
			return 1, api.OK
		}
		return 0, api.OK
	}
	return 0, api.ErrArg
}

// firstStrong is the place of the first strong one of a piece, and whether there is one.
//
// It need not know what stands outside: which PDI of the piece belongs to a beginning in it hangs on what stands between these two alone.
func firstStrong(piece []api.Class) (int, bool) {
	at := 0
outside:
	for at < len(piece) {
		class := piece[at]
		if strong(class) {
			return at, true
		}
		at++
		if !begins(class) {
			continue
		}
		for open := 1; at < len(piece); at++ {
			switch {
			case begins(piece[at]):
				open++
			case piece[at] == api.PDI:
				open--
			case piece[at] == api.B:
				return 0, false // the isolate never ends
			}
			if open == 0 {
				continue outside
			}
		}
	}
	return 0, false
}

func begins(c api.Class) bool {
	return c == api.LRI || c == api.RLI || c == api.FSI
}

func strong(c api.Class) bool {
	return c == api.L || c == api.R || c == api.AL
}

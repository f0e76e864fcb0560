package stack

import (
	"iter"
	"slices"

	"furrow/api"
	"furrow/paras"
)

// Explicit is the explicit levels of the classes l at a base, and which isolate beginnings and ends belong together. ErrLevel, if the base is neither 0 nor 1; ErrLong, if l are more than MaxText.
func Explicit(base api.Level, l ...api.Class) (api.Explicit, api.Errno) {
	s, why := New(base)
	if why != api.OK {
		return api.Explicit{}, why
	}
	if len(l) > api.MaxText {
		return api.Explicit{}, api.ErrLong
	}
	match := paras.Match(l)
	out := api.Explicit{Levels: make([]api.Level, 0, len(l)), Classes: make([]api.Class, 0, len(l)), Match: match}
	for level, class := range s.steps(l, match) {
		out.Levels = append(out.Levels, level)
		out.Classes = append(out.Classes, class)
	}
	return out, api.OK
}

// steps tells the level and the class that each of l gets, one step behind the other.
func (s *Stack) steps(l []api.Class, match []int) iter.Seq2[api.Level, api.Class] {
	return func(yield func(api.Level, api.Class) bool) {
		for at, c := range l {
			level, class, _ := s.Step(c, s.auto(l, match, at))
			if !yield(level, class) {
				return
			}
		}
	}
}

// auto is what Step is to be told at that place, where it asks for it.
//
// Where no isolate has room, whatever its level, Step does not ask: to look through each FSI of a row of them would take as many steps as their number times itself.
func (s *Stack) auto(l []api.Class, match []int, at int) api.Level {
	if l[at] != api.FSI || !s.hasRoom(s.Level()+1) {
		return 0
	}
	level, _ := paras.Level(within(l, match, at), api.Auto)
	return level
}

// within is what stands in the isolate that begins at that place: there is a B only in one that never ends.
func within(l []api.Class, match []int, at int) []api.Class {
	behind := l[at+1 : match[at]]
	if end := slices.Index(behind, api.B); end >= 0 {
		return behind[:end]
	}
	return behind
}

package stack

import "furrow/api"

// entry is what an embedding, an override, an isolate or the base makes of the characters in it.
type entry struct {
	level    api.Level
	override api.Class // L or R, or noOverride
	isolate  bool
}

// noOverride is the override of an entry that leaves classes as they are.
const noOverride api.Class = 0

// holds tells of a character of the class c that stands in the entry what Step tells of it.
func (e entry) holds(c api.Class) (api.Level, api.Class, bool) {
	switch {
	case e.override != noOverride:
		c = e.override
	case c < api.L || c > api.PDI:
		c = api.ON
	}
	return e.level, c, true
}

// last is the entry that was put on last.
func (s *Stack) last() entry {
	return s.entries[len(s.entries)-1]
}

func (s *Stack) takeOff() {
	s.entries = s.entries[:len(s.entries)-1]
}

// embed begins an embedding or an override.
func (s *Stack) embed(c api.Class) {
	right := c == api.RLE || c == api.RLO
	if s.putOn(entry{level: s.next(right), override: overrideOf(c)}) {
		return
	}
	if s.isolates == 0 {
		s.embeddings++
	}
}

// isolate begins an isolate that runs to the right or to the left.
func (s *Stack) isolate(right bool) {
	if s.putOn(entry{level: s.next(right), isolate: true}) {
		s.valid++
		return
	}
	s.isolates++
}

// endEmbedding ends the embedding or override that was begun last; not one outside the isolate that was begun last.
func (s *Stack) endEmbedding() {
	switch {
	case s.isolates > 0:
		// it ends something within what is over
	case s.embeddings > 0:
		s.embeddings--
	case !s.last().isolate && len(s.entries) > 1:
		s.takeOff()
	}
}

// endIsolate ends the isolate that was begun last, and all embeddings in it.
func (s *Stack) endIsolate() {
	switch {
	case s.isolates > 0:
		s.isolates--
	case s.valid > 0:
		s.embeddings = 0
		for !s.last().isolate {
			s.takeOff()
		}
		s.takeOff()
		s.valid--
	}
}

// next is the next odd level (right), or the next even one.
func (s *Stack) next(right bool) api.Level {
	least := s.last().level + 1
	if odd := least%2 == 1; odd != right {
		least++
	}
	return least
}

// putOn puts e on, if there is room for its level, and tells whether there is.
func (s *Stack) putOn(e entry) bool {
	if !s.hasRoom(e.level) {
		return false
	}
	s.entries = append(s.entries, e)
	return true
}

func (s *Stack) hasRoom(level api.Level) bool {
	return level <= api.MaxDepth && s.isolates == 0 && s.embeddings == 0
}

// overrideOf is the class that characters get between c and its PDF.
func overrideOf(c api.Class) api.Class {
	switch c {
	case api.RLO:
		return api.R
	case api.LRO:
		return api.L
	}
	return noOverride
}

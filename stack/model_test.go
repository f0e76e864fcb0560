package stack_test

import (
	"slices"
	"strings"
	"testing"

	"furrow/api"
	"furrow/stack"
)

// frame is what a beginning opened and nothing has ended yet, over or not.
type frame struct {
	level    api.Level
	override api.Class
	isolate  bool
	over     bool
}

// model is a stack without counts: one list of all that is open, and what is over in it, too.
type model struct {
	base   api.Level
	frames []frame
}

// begins are what each beginning opens: whether its level is odd, its override, whether it is an isolate's. FSI is told by auto.
var begins = map[api.Class]struct {
	odd      bool
	override api.Class
	isolate  bool
}{
	api.RLE: {true, 0, false}, api.LRE: {false, 0, false}, api.RLO: {true, api.R, false}, api.LRO: {false, api.L, false},
	api.RLI: {true, 0, true}, api.LRI: {false, 0, true},
}

// answer is what a step answers.
type answer struct {
	level api.Level
	class api.Class
	kept  bool
}

func (m *model) step(c api.Class, auto api.Level) answer {
	switch {
	case c == api.B:
		m.frames = nil
		return answer{m.base, api.B, true}
	case c == api.BN:
		return answer{api.Gone, c, false}
	case c == api.PDF:
		if top := len(m.frames) - 1; top >= 0 && !m.frames[top].isolate {
			m.frames = m.frames[:top]
		}
		return answer{api.Gone, c, false}
	case c == api.PDI:
		for at := len(m.frames) - 1; at >= 0; at-- {
			if m.frames[at].isolate {
				m.frames = m.frames[:at]
				break
			}
		}
		return m.inside(c)
	case c == api.FSI:
		told := m.inside(c)
		if auto == 1 {
			m.begin(api.RLI)
		} else {
			m.begin(api.LRI)
		}
		return told
	case begins[c].isolate:
		told := m.inside(c)
		m.begin(c)
		return told
	case begins[c].odd, c == api.LRE, c == api.LRO:
		m.begin(c)
		return answer{api.Gone, c, false}
	}
	return m.inside(c)
}

// begin opens something; an embedding within an isolate that is over is nothing at all.
func (m *model) begin(c api.Class) {
	what := begins[c]
	level := m.inside(api.ON).level + 1
	if (level%2 == 1) != what.odd {
		level++
	}
	over := level > 125
	for _, f := range m.frames {
		over = over || f.over
		if f.over && f.isolate && !what.isolate {
			return
		}
	}
	m.frames = append(m.frames, frame{level, what.override, what.isolate, over})
}

// inside is what a character gets where it stands: by the last frame that is not over.
func (m *model) inside(c api.Class) answer {
	if c == 0 || c > 23 {
		c = api.ON
	}
	for at := len(m.frames) - 1; at >= 0; at-- {
		f := m.frames[at]
		if f.over {
			continue
		}
		if f.override != 0 {
			c = f.override
		}
		return answer{f.level, c, true}
	}
	return answer{m.base, c, true}
}

// state is all that the methods of a stack tell of it.
type state struct {
	depth                       int
	level                       api.Level
	isolates, embeddings, valid int
}

func (m *model) state() state {
	told := state{depth: 1, level: m.inside(api.ON).level}
	for _, f := range m.frames {
		switch {
		case f.over && f.isolate:
			told.isolates++
		case f.over:
			told.embeddings++
		case f.isolate:
			told.valid++
			told.depth++
		default:
			told.depth++
		}
	}
	return told
}

func stateOf(s *stack.Stack) state {
	isolates, embeddings, valid := s.Over()
	return state{s.Depth(), s.Level(), isolates, embeddings, valid}
}

func step(s *stack.Stack, c api.Class, auto api.Level) answer {
	level, class, kept := s.Step(c, auto)
	return answer{level, class, kept}
}

// modelEnds is for each isolate beginning the place of its PDI, or the list's length; for each PDI of one its beginning; else -1.
func modelEnds(l []api.Class) []int {
	out := slices.Repeat([]int{-1}, len(l))
	for at, c := range l {
		if !isBeginning(c) {
			continue
		}
		out[at] = len(l)
		open := 0
		for i := at; i < len(l) && l[i] != api.B; i++ {
			if isBeginning(l[i]) {
				open++
			}
			if l[i] == api.PDI {
				open--
			}
			if open == 0 {
				out[at], out[i] = i, at
				break
			}
		}
	}
	return out
}

func isBeginning(c api.Class) bool { return c == api.LRI || c == api.RLI || c == api.FSI }

// modelAuto is the level of an FSI's contents: each place behind it is told by what stands between the two.
func modelAuto(l []api.Class, at int) api.Level {
	open := 0
	for _, c := range l[at+1:] {
		switch {
		case c == api.B, open == 0 && c == api.PDI:
			return 0
		case isBeginning(c):
			open++
		case c == api.PDI:
			open--
		case open == 0 && c == api.L:
			return 0
		case open == 0 && (c == api.R || c == api.AL):
			return 1
		}
	}
	return 0
}

// modelExplicit is the explicit levels by the model.
func modelExplicit(base api.Level, l []api.Class) api.Explicit {
	m := model{base: base}
	out := api.Explicit{Match: modelEnds(l)}
	for at, c := range l {
		var auto api.Level
		if c == api.FSI {
			auto = modelAuto(l, at)
		}
		told := m.step(c, auto)
		out.Levels = append(out.Levels, told.level)
		out.Classes = append(out.Classes, told.class)
	}
	return out
}

func sameExplicit(a, b api.Explicit) bool {
	return slices.Equal(a.Levels, b.Levels) && slices.Equal(a.Classes, b.Classes) && slices.Equal(a.Match, b.Match)
}

// isModel is whether Explicit answers at both bases what the model does.
func isModel(t *testing.T, l []api.Class) {
	t.Helper()
	for base := range api.Level(2) {
		want := modelExplicit(base, l)
		if got := explicit(t, base, l...); !sameExplicit(got, want) {
			t.Fatalf("%s at %d: %v, not %v", names(l), base, got, want)
		}
	}
}

// explicit is what Explicit answers with OK.
func explicit(t *testing.T, base api.Level, l ...api.Class) api.Explicit {
	t.Helper()
	got, why := stack.Explicit(base, l...)
	if why != api.OK {
		t.Fatal(names(l), base, why)
	}
	return got
}

// made is a stack of which the steps were taken.
func made(t *testing.T, base api.Level, l ...api.Class) *stack.Stack {
	t.Helper()
	s, why := stack.New(base)
	if why != api.OK {
		t.Fatal(base, why)
	}
	for _, c := range l {
		s.Step(c, 0)
	}
	return s
}

// every is all numbers that a class may have, those that are none, too.
func every() []api.Class {
	var out []api.Class
	for c := range 256 {
		out = append(out, api.Class(c))
	}
	return out
}

// many is the classes, so often one behind the other.
func many(n int, l ...api.Class) []api.Class {
	return slices.Repeat(l, n)
}

func isRemoved(c api.Class) bool {
	return slices.Contains([]api.Class{api.LRE, api.RLE, api.LRO, api.RLO, api.PDF, api.BN}, c)
}

// names is a list of classes in words.
func names(l []api.Class) string {
	short := strings.Fields("0 L R AL EN ES ET AN CS NSM BN B S WS ON LRE LRO RLE RLO PDF LRI RLI FSI PDI")
	var out []string
	for _, c := range l {
		if int(c) < len(short) {
			out = append(out, short[c])
		} else {
			out = append(out, "?")
		}
	}
	return strings.Join(out, " ")
}

package trie_test

import (
	"testing"

	"furrow/api"
	"furrow/trial"
	"furrow/trie"
)

// 11.5, 11.8: how many blocks there are.
func TestBlocks(t *testing.T) {
	for what, c := range map[string]struct {
		got      *trie.Trie[int]
		mid, low int
	}{
		"one value":                          {built(t, 5), 1, 1},
		"one value by a span":                {built(t, 5, span(0, 0x10FFFF, 6)), 1, 1},
		"one value by two":                   {built(t, 5, span(0, 0x5000, 6), span(0x5001, 0x10FFFF, 6)), 1, 1},
		"a number":                           {built(t, 5, span(7, 7, 6)), 2, 2},
		"numbers at one place of blocks":     {built(t, 5, span(7, 7, 6), span(0x47, 0x47, 6)), 2, 2},
		"numbers at unlike places of blocks": {built(t, 5, span(7, 7, 6), span(0x48, 0x48, 6)), 2, 3},
		"middle blocks that are the same":    {built(t, 5, span(7, 7, 6), span(0x1007, 0x1007, 6)), 2, 2},
		"middle blocks that are not":         {built(t, 5, span(7, 7, 6), span(0x1047, 0x1047, 6)), 3, 2},
		"a low block":                        {built(t, 5, span(0x40, 0x7F, 6)), 2, 2},
		"a middle block":                     {built(t, 5, span(0x1000, 0x1FFF, 6)), 2, 2},
		"all unlike":                         {trie.Fill(func(r rune) int { return int(r) }), 272, 17408},
		"low blocks unlike":                  {trie.Fill(func(r rune) int { return int(r >> 6) }), 272, 17408},
		"middle blocks unlike":               {trie.Fill(func(r rune) int { return int(r >> 12) }), 272, 272},
		"64 low ones":                        {trie.Fill(func(r rune) int { return int(r >> 6 & 63) }), 1, 64},
		"one of each":                        {trie.Fill(func(r rune) int { return int(r & 63) }), 1, 1},
		"all but the last number":            {built(t, 5, span(0, 0x10FFFE, 6)), 2, 2},
	} {
		if mid, low := c.got.Blocks(); mid != c.mid || low != c.low {
			t.Errorf("%s: %d, %d, not %d, %d", what, mid, low, c.mid, c.low)
		}
	}
}

// more is how many blocks of that many numbers a span makes at most: one for each end that lies within a block, one for all that are whole.
func more(s api.Span[int], size rune) int {
	first, last := s.From/size, s.To/size
	n := 0
	if s.From%size != 0 || first == last && (s.To+1)%size != 0 {
		n++
		first++
	}
	if first <= last && (s.To+1)%size != 0 {
		n++
		last--
	}
	if first <= last {
		n++
	}
	return n
}

// 11.8: spans one by one: each makes few blocks more, and there are never more than there may be.
func TestBlocksOfASpanMore(t *testing.T) {
	next := trial.Numbers()
	pick := func(bound uint32) rune { return rune(next() >> 8 % bound) }
	for range 20 {
		var spans []api.Span[int]
		mid, low := built(t, 0).Blocks()
		for range 150 {
			from := pick(count)
			s := span(from, min(from+pick([]uint32{4, 64, 130, 5000, 40000}[pick(5)]), api.MaxRune), int(pick(4)))
			got, _, why := trie.Build(0, append(spans, s)...)
			if why != api.OK {
				continue
			}
			spans = append(spans, s)
			nowMid, nowLow := got.Blocks()
			if nowMid-mid > min(more(s, 4096), 3) || nowLow-low > min(more(s, 64), 3) {
				t.Fatalf("%X makes %d and %d more", s, nowMid-mid, nowLow-low)
			}
			if nowMid > 272 || nowLow > 17408 || nowLow > 64*nowMid {
				t.Fatalf("%d and %d blocks", nowMid, nowLow)
			}
			p := got.Parts()
			if len(p.Top) != 272 || len(p.Mid) != 64*nowMid || len(p.Low) != 64*nowLow {
				t.Fatalf("%d, %d, %d in %d and %d blocks", len(p.Top), len(p.Mid), len(p.Low), nowMid, nowLow)
			}
			mid, low = nowMid, nowLow
		}
		if len(spans) < 50 {
			t.Errorf("%d spans alone", len(spans))
		}
	}
}

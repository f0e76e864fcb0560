package trie

import (
	"slices"

	"furrow/api"
)

// numbered is blocks of one kind, numbered from 0 on in the order in which they are first met.
type numbered[T comparable] struct {
	met map[[size]T]uint16
	all []T // what is in them, by rising numbers
}

func newNumbered[T comparable]() *numbered[T] {
	return &numbered[T]{met: map[[size]T]uint16{}}
}

// number is the number of the block, which is a new one if it was not met.
func (n *numbered[T]) number(block []T) uint16 {
	key := [size]T(block)
	if no, met := n.met[key]; met {
		return no
	}
	no := uint16(len(n.met)) // of low blocks there are 17408 at most
	n.met[key] = no
	n.all = append(n.all, block...)
	return no
}

// has is whether the block would be met again. One with a value that is not == to itself never is, though it was numbered.
func (n *numbered[T]) has(block []T) bool {
	_, met := n.met[[size]T(block)]
	return met
}

// maker is given a function by rising numbers, value by value or block by block, and makes its trie.
type maker[V comparable] struct {
	lows  *numbered[V]
	laid  []uint16 // the number of the low block at each place so far
	begun []V      // the values of the low block that is not whole yet
}

func newMaker[V comparable]() *maker[V] {
	return &maker[V]{lows: newNumbered[V](), laid: make([]uint16, 0, places), begun: make([]V, 0, size)}
}

// add gives the next number its value.
func (m *maker[V]) add(v V) {
	m.begun = append(m.begun, v)
	if len(m.begun) == size {
		m.put(m.begun, 1)
		m.begun = m.begun[:0]
	}
}

// lay gives that many of the next numbers the value v.
func (m *maker[V]) lay(v V, count int) {
	for count > 0 {
		if len(m.begun) == 0 && count >= size {
			m.put(slices.Repeat([]V{v}, size), count/size)
			count %= size
			continue
		}
		m.add(v)
		count--
	}
}

// put gives that many of the next places the low block. It is called where none is begun.
func (m *maker[V]) put(block []V, times int) {
	no := m.lows.number(block)
	shared := times == 1 || m.lows.has(block)
	for n := range times {
		if n > 0 && !shared {
			no = m.lows.number(block)
		}
		m.laid = append(m.laid, no)
	}
}

// trie is the trie of the function, each number of which has its value by now.
func (m *maker[V]) trie() *Trie[V] {
	mids := newNumbered[uint16]()
	top := make([]uint16, 0, tops)
	for mid := range slices.Chunk(m.laid, size) {
		top = append(top, mids.number(mid))
	}
	return &Trie[V]{parts: api.Parts[V]{Top: top, Mid: mids.all, Low: m.lows.all}}
}

package circ

import (
	"slices"

	"latchet/api"
	"latchet/heap"
	"latchet/lit"
)

// sorter puts gates in order. A gate that can't be told yet waits for one of those that it is still to be behind.
type sorter struct {
	gates []api.Gate
	open  []int // of each variable, the place of its gate while that is not told yet, or none
	heads []int // of each gate, one that waits for it, or none
	next  []int // of each gate that waits, another one that waits for the same gate, or none
	ready queue
	order []int
}

// sorted is the places of gates, each time the first one that can be told; no more, if those that are left can't be.
// No variable of theirs is behind the last one.
func sorted(gates []api.Gate, last int) []int {
	s := &sorter{
		gates: gates,
		open:  slices.Repeat([]int{none}, last+1),
		heads: slices.Repeat([]int{none}, len(gates)),
		next:  make([]int, len(gates)),
		ready: newQueue(len(gates)),
	}
	for p, g := range gates {
		s.open[lit.Var(g.Lit)] = p
	}
	for p := range gates {
		s.settle(p)
		// What waited stands ahead of all that are still to come.
		for q, ok := s.ready.take(); ok; q, ok = s.ready.take() {
			s.tell(q)
		}
	}
	return s.order
}

// settle makes a gate wait, or ready to be told.
func (s *sorter) settle(p int) {
	g := s.gates[p]
	for _, l := range [2]int{g.A, g.B} {
		if on := s.open[lit.Var(l)]; on != none {
			s.next[p] = s.heads[on]
			s.heads[on] = p
			return
		}
	}
	s.ready.put(p)
}

// tell puts a gate into the order, and looks again at those that waited for it.
func (s *sorter) tell(p int) {
	s.order = append(s.order, p)
	s.open[lit.Var(s.gates[p].Lit)] = none
	for q := s.heads[p]; q != none; {
		next := s.next[q] // it may wait again, for another one
		s.settle(q)
		q = next
	}
}

// queue is places, the first one of which comes out first: heaps of api.MaxNodes places each, since none holds more.
type queue []*heap.Heap

// newQueue is a queue for so many places.
func newQueue(n int) queue {
	var q queue
	for ; n > 0; n -= api.MaxNodes {
		q = append(q, heap.New(min(n, api.MaxNodes)))
	}
	return q
}

// put puts a place into it.
func (q queue) put(p int) { q[p/api.MaxNodes].Push(p % api.MaxNodes) }

// take takes the first one out, if there is one.
func (q queue) take() (int, bool) {
	for k, h := range q {
		if p, ok := h.Pop(); ok {
			return k*api.MaxNodes + p, true
		}
	}
	return 0, false
}

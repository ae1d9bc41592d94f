package aig_test

import (
	"math"
	"slices"
	"testing"

	"latchet/aig"
	"latchet/api"
)

// Written out by itself, so that a limit that is one off is seen.
const maxNodes = 1048576

// noLits are numbers that are no literal of any variable.
var noLits = []int{-1, -2, -3, math.MinInt, math.MinInt + 1, 2*(1<<24) + 2, 2*(1<<24) + 3, 1 << 32, 1 << 62, math.MaxInt - 1, math.MaxInt}

// in is an input.
func in() api.Node { return api.Node{A: -1} }

// gate is a gate of two literals.
func gate(a, b int) api.Node { return api.Node{A: a, B: b} }

// net is a list of nodes.
func net(l ...api.Node) []api.Node { return l }

// inputs are so many inputs.
func inputs(n int) []api.Node { return slices.Repeat(net(in()), n) }

// storeOf is a store of so many inputs.
func storeOf(t *testing.T, n int) *aig.Store {
	t.Helper()
	s := aig.New()
	for i := range n {
		if l := s.Input(); l != 2*(i+1) {
			t.Fatalf("the input %d is the literal %d", i, l)
		}
	}
	return s
}

// withRoom is a store of inputs that has room for so many nodes more.
func withRoom(t *testing.T, room int) *aig.Store {
	t.Helper()
	return storeOf(t, maxNodes-room)
}

// want holds what was told against what it should be.
func want(t *testing.T, what string, got, should int) {
	t.Helper()
	if got != should {
		t.Errorf("%s is %d, not %d", what, got, should)
	}
}

// wantList holds a list against what it should be.
func wantList(t *testing.T, what string, got, should []int) {
	t.Helper()
	if !slices.Equal(got, should) {
		t.Errorf("%s is %v, not %v", what, got, should)
	}
}

// wantGates holds a store's nodes behind its inputs against what they should be.
func wantGates(t *testing.T, s *aig.Store, ins int, gates ...api.Node) {
	t.Helper()
	if s.Len() != ins+len(gates) {
		t.Fatalf("Len is %d, not %d", s.Len(), ins+len(gates))
	}
	n := s.Net()
	if len(n) != ins+len(gates) {
		t.Fatalf("the net has %d nodes, not %d", len(n), ins+len(gates))
	}
	for i, x := range n[:ins] {
		if x != in() {
			t.Fatalf("the node %d is %v, no input", i, x)
		}
	}
	if !slices.Equal(n[ins:], gates) {
		t.Errorf("its gates are %v, not %v", n[ins:], gates)
	}
}

// P7.1: which nets are good.
func TestCheck(t *testing.T) {
	for _, c := range []struct {
		name string
		n    []api.Node
		want api.Errno
	}{
		{"none", nil, api.OK},
		{"no nodes", net(), api.OK},
		{"an input", net(in()), api.OK},
		{"inputs", inputs(5), api.OK},
		{"a gate of two inputs", net(in(), in(), gate(4, 2)), api.OK},
		{"a gate of inverses", net(in(), in(), gate(3, 5)), api.OK},
		{"a gate of the variable 0", net(gate(0, 1)), api.OK},
		{"a gate of 1 and 1", net(gate(1, 1)), api.OK},
		{"a gate of one variable", net(in(), gate(2, 3)), api.OK},
		{"gates that are alike", net(in(), in(), gate(2, 4), gate(4, 2), gate(2, 4)), api.OK},
		{"a gate of gates", net(in(), gate(2, 1), gate(5, 3), in(), gate(6, 9)), api.OK},
		{"the last literal ahead", net(in(), in(), in(), gate(7, 7)), api.OK},
		{"A of its own variable", net(in(), gate(4, 2)), api.ErrRange},
		{"A of its own inverse", net(in(), gate(5, 2)), api.ErrRange},
		{"B of its own variable", net(in(), gate(2, 4)), api.ErrRange},
		{"B of its own inverse", net(in(), gate(2, 5)), api.ErrRange},
		{"the first one of its own", net(gate(2, 0)), api.ErrRange},
		{"the first one of its own, by B", net(gate(0, 3)), api.ErrRange},
		{"A of a later one", net(in(), gate(6, 2), in()), api.ErrRange},
		{"B of a later one", net(in(), gate(2, 6), in()), api.ErrRange},
		{"B of one that is not there", net(in(), in(), gate(2, 40)), api.ErrRange},
		{"B below 0", net(in(), in(), gate(2, -1)), api.ErrRange},
		{"B far below 0", net(in(), in(), gate(2, math.MinInt)), api.ErrRange},
		{"wrong in the midst", net(in(), gate(2, 4), in(), gate(2, 6)), api.ErrRange},
		{"wrong at the end", net(in(), in(), gate(2, 4), gate(6, 8)), api.ErrRange},
	} {
		if e := aig.Check(c.n); e != c.want {
			t.Errorf("%s: %v, not %v", c.name, e, c.want)
		}
	}
	for _, l := range noLits {
		if e := aig.Check(net(in(), in(), gate(2, l))); e != api.ErrRange {
			t.Errorf("B is %d: %v", l, e)
		}
		if e := aig.Check(net(in(), in(), gate(l, 2))); e != api.ErrRange && l >= 0 {
			t.Errorf("A is %d: %v", l, e)
		}
	}
}

// P7.1: each literal is held against its own node's variable.
func TestCheckEachPlace(t *testing.T) {
	const n = 9
	for at := range n {
		for l := range 2*n + 6 {
			should := api.OK
			if l/2 > at {
				should = api.ErrRange
			}
			for _, x := range net(gate(l, 0), gate(1, l)) {
				list := inputs(n)
				list[at] = x
				if e := aig.Check(list); e != should {
					t.Errorf("%v as the node %d: %v", x, at, e)
				}
			}
		}
	}
}

// P7.1: a node is an input if its A is below 0, whatever its B is.
func TestCheckOfInputs(t *testing.T) {
	bs := append([]int{0, 1, 2, 3, 4, 5, 6, 99}, noLits...)
	for _, a := range []int{-1, -2, -77, math.MinInt} {
		for _, b := range bs {
			n := net(in(), gate(a, b), gate(4, 2))
			if e := aig.Check(n); e != api.OK {
				t.Errorf("%v: %v", n, e)
			}
			wantList(t, "Inputs", aig.Inputs(n), []int{1, 2})
			wantList(t, "Levels", aig.Levels(n), []int{0, 0, 0, 1})
			s := aig.New()
			wantList(t, "Copy", s.Copy(n, nil), []int{0, 2, 4, 6})
			wantGates(t, s, 2, gate(2, 4))
		}
	}
}

// P7.1: how many nodes there may be, and that too many are told ahead of what else is wrong.
func TestCheckOfMany(t *testing.T) {
	n := inputs(maxNodes + 2)
	if api.MaxNodes != maxNodes {
		t.Fatal(api.MaxNodes)
	}
	for many, should := range map[int]api.Errno{maxNodes - 1: api.OK, maxNodes: api.OK, maxNodes + 1: api.ErrLong, maxNodes + 2: api.ErrLong} {
		if e := aig.Check(n[:many]); e != should {
			t.Errorf("%d nodes: %v", many, e)
		}
	}
	n[maxNodes-1] = gate(2*maxNodes-1, 2*maxNodes-2)
	if e := aig.Check(n[:maxNodes]); e != api.OK {
		t.Error("the last gate:", e)
	}
	n[maxNodes-1] = gate(2*maxNodes, 2)
	if e := aig.Check(n[:maxNodes]); e != api.ErrRange {
		t.Error("the last gate, of itself:", e)
	}
	n[0] = gate(2, 2)
	if e := aig.Check(n[:maxNodes+1]); e != api.ErrLong {
		t.Error("two errors:", e)
	}
}

// P7.1: the inputs' variables rise, the first node being the variable 1.
func TestInputs(t *testing.T) {
	for _, c := range []struct {
		n    []api.Node
		want []int
	}{
		{nil, nil},
		{net(in()), []int{1}},
		{net(gate(0, 1)), nil},
		{inputs(4), []int{1, 2, 3, 4}},
		{net(gate(1, 1), in(), gate(4, 2), in()), []int{2, 4}},
		{net(in(), in(), gate(2, 4), in(), gate(6, 8)), []int{1, 2, 4}},
	} {
		wantList(t, "Inputs", aig.Inputs(c.n), c.want)
	}
}

// P7.1: the levels, from the variable 0 on.
func TestLevels(t *testing.T) {
	for _, c := range []struct {
		n    []api.Node
		want []int
	}{
		{nil, []int{0}},
		{net(in()), []int{0, 0}},
		{net(gate(0, 0)), []int{0, 1}},
		{net(gate(1, 0), gate(2, 1), gate(0, 5)), []int{0, 1, 2, 3}},
		{net(in(), in(), gate(4, 2)), []int{0, 0, 0, 1}},
		{net(in(), gate(2, 1), gate(5, 3), gate(2, 2), gate(8, 7), gate(7, 8)), []int{0, 0, 1, 2, 1, 3, 3}},
		{net(in(), gate(3, 2), gate(4, 4), in(), gate(9, 8), gate(6, 11)), []int{0, 0, 1, 2, 0, 1, 3}},
		{net(in(), gate(2, 2), gate(5, 4), gate(7, 6), gate(2, 8), gate(9, 2)), []int{0, 0, 1, 2, 3, 4, 4}},
	} {
		wantList(t, "Levels", aig.Levels(c.n), c.want)
	}
}

// P7.1: a way of as many gates as there may be.
func TestLevelsOfMany(t *testing.T) {
	n := net(in())
	for v := 2; v <= maxNodes; v++ {
		n = append(n, gate(2*(v-1)+v%2, 1))
	}
	levels := aig.Levels(n)
	if len(levels) != maxNodes+1 {
		t.Fatal(len(levels))
	}
	for v, level := range levels {
		if level != max(0, v-1) {
			t.Fatalf("the level of %d is %d", v, level)
		}
	}
}

// P7.1: of nets that are not good anything may be told, but without a panic.
func TestNotGood(t *testing.T) {
	bad := [][]api.Node{
		net(gate(2, 2)), net(in(), gate(9, 2)), net(in(), gate(2, -1)), net(gate(math.MaxInt, math.MinInt)),
		net(in(), gate(6, 2), gate(4, 2)), slices.Repeat(net(gate(1, 1)), maxNodes+1),
	}
	for _, l := range noLits {
		bad = append(bad, net(in(), in(), gate(2, l)), net(in(), in(), gate(max(l, 0), 77)))
	}
	for _, n := range bad {
		aig.Inputs(n)
		aig.Levels(n)
		s := storeOf(t, 2)
		s.Copy(n, nil)
		s.Copy(n, []int{2, 4})
		s.Copy(n, []int{-1})
		s.And(2, 4)
	}
}

// P7.2: a new store has no nodes, and inputs get one literal each.
func TestInput(t *testing.T) {
	s := aig.New()
	if s == nil {
		t.Fatal("New is nil")
	}
	wantGates(t, s, 0)
	want(t, "the first input", s.Input(), 2)
	want(t, "the second input", s.Input(), 4)
	want(t, "a gate", s.And(2, 4), 6)
	want(t, "the third input", s.Input(), 8)
	if n := s.Net(); !slices.Equal(n, net(in(), in(), gate(2, 4), in())) {
		t.Error(n)
	}
	want(t, "Input of another one", aig.New().Input(), 2)
}

// P7.2: the cases of And, in their order.
func TestAnd(t *testing.T) {
	for _, c := range []struct{ a, b, want int }{
		// No literal of the store, whatever the other one is; the store has the variables 0 to 3.
		{8, 0, -1}, {0, 8, -1}, {9, 1, -1}, {8, 8, -1}, {8, 9, -1}, {-1, 0, -1}, {0, -1, -1}, {-1, -1, -1}, {-2, -1, -1}, {2, 10, -1},
		// 0, and a literal and its Not.
		{0, 0, 0}, {0, 1, 0}, {1, 0, 0}, {0, 2, 0}, {5, 0, 0}, {2, 3, 0}, {3, 2, 0}, {4, 5, 0}, {7, 6, 0},
		// 1.
		{1, 1, 1}, {1, 2, 2}, {2, 1, 2}, {1, 5, 5}, {7, 1, 7},
		// The same.
		{2, 2, 2}, {3, 3, 3}, {6, 6, 6}, {7, 7, 7},
		// The gate that is there.
		{2, 4, 6}, {4, 2, 6},
	} {
		s := storeOf(t, 2)
		s.And(2, 4)
		want(t, "And", s.And(c.a, c.b), c.want)
		wantGates(t, s, 2, gate(2, 4))
		if t.Failed() {
			t.Fatalf("And(%d, %d)", c.a, c.b)
		}
	}
	s := storeOf(t, 2)
	for _, l := range noLits {
		for _, x := range append([]int{0, 1, 2, 5}, noLits...) {
			want(t, "And", s.And(l, x), -1)
			want(t, "And", s.And(x, l), -1)
		}
	}
	wantGates(t, s, 2)
}

// P7.2: of a store without nodes there are the literals 0 and 1 alone.
func TestAndOfNoNodes(t *testing.T) {
	s := aig.New()
	for a := -1; a < 4; a++ {
		for b := -1; b < 4; b++ {
			should := -1
			if a >= 0 && b >= 0 && a < 2 && b < 2 {
				should = a * b
			}
			want(t, "And", s.And(a, b), should)
		}
	}
	wantGates(t, s, 0)
}

// P7.2: a new gate has the lesser literal as its A, in whatever order they come.
func TestAndOfNewGates(t *testing.T) {
	for a := 2; a < 8; a++ {
		for b := 2; b < 8; b++ {
			if a/2 == b/2 {
				continue
			}
			s := storeOf(t, 3)
			want(t, "And", s.And(a, b), 8)
			wantGates(t, s, 3, gate(min(a, b), max(a, b)))
			want(t, "And once more", s.And(a, b), 8)
			want(t, "And the other way", s.And(b, a), 8)
			wantGates(t, s, 3, gate(min(a, b), max(a, b)))
			// Each other gate of these variables, and of an inverse of one, is another one.
			want(t, "And of an inverse", s.And(a^1, b), 10)
			want(t, "And of the other inverse", s.And(b^1, a), 12)
			want(t, "And of both", s.And(b^1, a^1), 14)
			want(t, "And of the gate", s.And(8, a), 16)
			want(t, "And of its inverse", s.And(b, 9), 18)
			want(t, "And of the first one", s.And(b, a), 8)
			if t.Failed() {
				t.Fatalf("And(%d, %d)", a, b)
			}
		}
	}
}

// P7.2: the chapter's example.
func TestExample(t *testing.T) {
	s := storeOf(t, 2)
	want(t, "And(4, 2)", s.And(4, 2), 6)
	want(t, "And(2, 4)", s.And(2, 4), 6)
	want(t, "And(2, 3)", s.And(2, 3), 0)
	want(t, "Or(2, 4)", s.Or(2, 4), 9)
	wantGates(t, s, 2, gate(2, 4), gate(3, 5))
}

// P7.2: with MaxNodes nodes nothing new is put there, and all else is told as it was.
func TestFull(t *testing.T) {
	s := withRoom(t, 3)
	const last = 2 * (maxNodes - 3)
	want(t, "the last gate but one", s.And(last, 2), last+2)
	want(t, "the last gate", s.And(last+2, 5), last+4)
	want(t, "the last input", s.Input(), last+6)
	for range 2 {
		want(t, "Input", s.Input(), -1)
		want(t, "And of a new gate", s.And(2, 4), -1)
		want(t, "Or of a new gate", s.Or(2, 4), -1)
		want(t, "Len", s.Len(), maxNodes)
	}
	for _, c := range []struct{ a, b, want int }{
		{last + 6, last + 8, -1}, {0, last + 8, -1}, {0, 6, 0}, {6, 0, 0}, {8, 9, 0}, {1, 8, 8}, {last + 7, 1, last + 7}, {6, 6, 6},
		{last, 2, last + 2}, {2, last, last + 2}, {5, last + 2, last + 4}, {2, last + 1, -1}, {last + 6, last + 4, -1},
	} {
		want(t, "And", s.And(c.a, c.b), c.want)
		if c.a >= 0 && c.a < last+8 && c.b < last+8 {
			should := c.want
			if should >= 0 {
				should ^= 1
			}
			want(t, "Or of inverses", s.Or(c.a^1, c.b^1), should)
		}
	}
	n := s.Net()
	if len(n) != maxNodes || aig.Check(n) != api.OK {
		t.Error(len(n), aig.Check(n))
	}
	if got := n[maxNodes-3:]; !slices.Equal(got, net(gate(2, last), gate(5, last+2), in())) {
		t.Error(got)
	}
}

// P7.3: Or is Not of And of both Not.
func TestOr(t *testing.T) {
	for _, c := range []struct{ a, b, want int }{
		{0, 0, 0}, {0, 1, 1}, {1, 0, 1}, {1, 4, 1}, {0, 4, 4}, {5, 0, 5}, {2, 3, 1}, {3, 2, 1}, {2, 2, 2}, {7, 7, 7},
		{8, 0, -1}, {1, 8, -1}, {9, 2, -1}, {-1, 1, -1}, {1, -1, -1}, {-1, -1, -1}, {-2, 1, -1},
		// The gate that is there is 6, of 2 and 4.
		{3, 5, 7}, {5, 3, 7},
	} {
		s := storeOf(t, 2)
		s.And(2, 4)
		want(t, "Or", s.Or(c.a, c.b), c.want)
		wantGates(t, s, 2, gate(2, 4))
		if t.Failed() {
			t.Fatalf("Or(%d, %d)", c.a, c.b)
		}
	}
	s := storeOf(t, 3)
	want(t, "Or", s.Or(6, 2), 9)
	want(t, "Or the other way", s.Or(2, 6), 9)
	want(t, "Or of an inverse", s.Or(5, 2), 11)
	want(t, "its And", s.And(3, 4), 10)
	wantGates(t, s, 3, gate(3, 7), gate(3, 4))
	for _, l := range noLits {
		want(t, "Or", s.Or(l, 1), -1)
		want(t, "Or", s.Or(2, l), -1)
	}
	wantGates(t, s, 3, gate(3, 7), gate(3, 4))
}

// P7.3: Mux is Or of And(c, a) and And(Not c, b), step by step.
func TestMux(t *testing.T) {
	for _, c := range []struct {
		c, a, b, want int
		gates         []api.Node
	}{
		{2, 4, 6, 13, net(gate(2, 4), gate(3, 6), gate(9, 11))},
		{3, 4, 6, 13, net(gate(3, 4), gate(2, 6), gate(9, 11))},
		{6, 2, 4, 13, net(gate(2, 6), gate(4, 7), gate(9, 11))},
		{6, 5, 3, 13, net(gate(5, 6), gate(3, 7), gate(9, 11))},
		{0, 4, 6, 6, nil}, {1, 4, 6, 4, nil}, {1, 5, 7, 5, nil}, {0, 0, 1, 1, nil},
		{2, 1, 0, 2, nil}, {2, 0, 1, 3, nil}, {2, 0, 0, 0, nil},
		// What does not fold is there, even where a shorter way would do.
		{2, 1, 1, 1, nil},
		{2, 4, 0, 8, net(gate(2, 4))},
		{2, 0, 4, 8, net(gate(3, 4))},
		{2, 1, 4, 11, net(gate(3, 4), gate(3, 9))},
		{2, 4, 1, 11, net(gate(2, 4), gate(2, 9))},
		{2, 4, 4, 13, net(gate(2, 4), gate(3, 4), gate(9, 11))},
		{2, 4, 5, 13, net(gate(2, 4), gate(3, 5), gate(9, 11))},
		{2, 2, 4, 11, net(gate(3, 4), gate(3, 9))},
		{2, 3, 4, 8, net(gate(3, 4))},
		{2, 4, 2, 8, net(gate(2, 4))},
		{2, 4, 3, 11, net(gate(2, 4), gate(2, 9))},
	} {
		s := storeOf(t, 3)
		for range 2 {
			want(t, "Mux", s.Mux(c.c, c.a, c.b), c.want)
			wantGates(t, s, 3, c.gates...)
		}
		if t.Failed() {
			t.Fatalf("Mux(%d, %d, %d)", c.c, c.a, c.b)
		}
	}
}

// P7.3: Xor is Mux(a, Not b, b), step by step.
func TestXor(t *testing.T) {
	for _, c := range []struct {
		a, b, want int
		gates      []api.Node
	}{
		{2, 4, 11, net(gate(2, 5), gate(3, 4), gate(7, 9))},
		{4, 2, 11, net(gate(3, 4), gate(2, 5), gate(7, 9))},
		{3, 4, 11, net(gate(3, 5), gate(2, 4), gate(7, 9))},
		{2, 5, 11, net(gate(2, 4), gate(3, 5), gate(7, 9))},
		{5, 3, 11, net(gate(2, 5), gate(3, 4), gate(7, 9))},
		{0, 0, 0, nil}, {0, 1, 1, nil}, {1, 0, 1, nil}, {1, 1, 0, nil},
		{0, 4, 4, nil}, {1, 4, 5, nil}, {4, 0, 4, nil}, {4, 1, 5, nil}, {5, 1, 4, nil},
		{2, 2, 0, nil}, {2, 3, 1, nil}, {3, 2, 1, nil}, {3, 3, 0, nil},
	} {
		s := storeOf(t, 2)
		for range 2 {
			want(t, "Xor", s.Xor(c.a, c.b), c.want)
			wantGates(t, s, 2, c.gates...)
		}
		if t.Failed() {
			t.Fatalf("Xor(%d, %d)", c.a, c.b)
		}
	}
}

// P7.3: of a literal that is none of the store nothing is put there, in whatever place it stands.
func TestStepsOfNoLiteral(t *testing.T) {
	for _, l := range append([]int{6, 7, 8}, noLits...) {
		s := storeOf(t, 2)
		for name, got := range map[string]int{
			"Or, first":   s.Or(l, 2),
			"Or, second":  s.Or(2, l),
			"Xor, first":  s.Xor(l, 4),
			"Xor, second": s.Xor(4, l),
			"Xor, both":   s.Xor(l, l),
			"Mux, first":  s.Mux(l, 2, 4),
			"Mux, second": s.Mux(2, l, 4),
			"Mux, third":  s.Mux(2, 4, l),
			"Mux, not 1":  s.Mux(0, l, 4),
			"Mux, not 2":  s.Mux(1, 4, l),
			"All, alone":  s.All([]int{l}),
			"All, first":  s.All([]int{l, 2, 4}),
			"All, midst":  s.All([]int{2, l, 4}),
			"All, last":   s.All([]int{2, 4, l}),
			"All of 0":    s.All([]int{0, 2, 4, l}),
			"Mux of 0":    s.Mux(2, 0, l),
			"Xor of 1":    s.Xor(1, l),
		} {
			want(t, name, got, -1)
		}
		wantGates(t, s, 2)
		if t.Failed() {
			t.Fatal(l)
		}
	}
}

// P7.3: All is And of them, from the first one on, beginning with 1.
func TestAll(t *testing.T) {
	for _, c := range []struct {
		l     []int
		want  int
		gates []api.Node
	}{
		{nil, 1, nil},
		{[]int{}, 1, nil},
		{[]int{0}, 0, nil}, {[]int{1}, 1, nil}, {[]int{2}, 2, nil}, {[]int{9}, 9, nil},
		{[]int{2, 2, 2}, 2, nil}, {[]int{1, 1}, 1, nil}, {[]int{1, 5, 1}, 5, nil},
		{[]int{2, 3}, 0, nil}, {[]int{2, 3, 4, 6}, 0, nil}, {[]int{0, 2, 4}, 0, nil},
		{[]int{2, 4}, 10, net(gate(2, 4))},
		{[]int{4, 2}, 10, net(gate(2, 4))},
		{[]int{2, 4, 0}, 0, net(gate(2, 4))},
		{[]int{2, 4, 6, 8}, 14, net(gate(2, 4), gate(6, 10), gate(8, 12))},
		{[]int{8, 6, 4, 2}, 14, net(gate(6, 8), gate(4, 10), gate(2, 12))},
		{[]int{3, 1, 5, 3, 9}, 14, net(gate(3, 5), gate(3, 10), gate(9, 12))},
		{[]int{2, 4, 4, 2}, 14, net(gate(2, 4), gate(4, 10), gate(2, 12))},
	} {
		s := storeOf(t, 4)
		for range 2 {
			want(t, "All", s.All(c.l), c.want)
			wantGates(t, s, 4, c.gates...)
		}
		if t.Failed() {
			t.Fatal(c.l)
		}
	}
	want(t, "All of no nodes", aig.New().All(nil), 1)
	want(t, "All of 1", aig.New().All([]int{1, 1}), 1)
}

// P7.3: All of many is a way of many gates.
func TestAllOfMany(t *testing.T) {
	const many = 10000
	s := storeOf(t, many)
	l, gates := []int{2}, []api.Node(nil)
	for i := 1; i < many; i++ {
		l = append(l, 2*i+2)
		if i == 1 {
			gates = append(gates, gate(2, 4))
		} else {
			gates = append(gates, gate(2*i+2, 2*(many+i-1)))
		}
	}
	want(t, "All", s.All(l), 2*(2*many-1))
	wantGates(t, s, many, gates...)
}

// P7.3: if a step tells -1, so does the whole, and what was put there ahead stays.
func TestStepsWithoutRoom(t *testing.T) {
	for room := range 4 {
		s := withRoom(t, room)
		had := maxNodes - room
		steps := []struct {
			name  string
			do    func(*aig.Store) int
			gates []api.Node
		}{
			{"Or", func(s *aig.Store) int { return s.Or(2, 4) }, net(gate(3, 5))},
			{"Mux", func(s *aig.Store) int { return s.Mux(2, 4, 6) },
				net(gate(2, 4), gate(3, 6), gate(2*had+3, 2*had+5))},
			{"Xor", func(s *aig.Store) int { return s.Xor(2, 4) },
				net(gate(2, 5), gate(3, 4), gate(2*had+3, 2*had+5))},
			{"All", func(s *aig.Store) int { return s.All([]int{2, 5, 6, 9}) },
				net(gate(2, 5), gate(6, 2*had+2), gate(9, 2*had+4))},
		}
		for _, step := range steps {
			c := s.Clone()
			should, gates := -1, step.gates
			if len(gates) <= room {
				should = 2 * (had + len(gates))
				if step.name != "All" {
					should++
				}
			}
			want(t, step.name, step.do(c), should)
			wantGates(t, c, had, gates[:min(room, len(gates))]...)
			want(t, step.name+" once more", step.do(c), should)
		}
	}
}

// P7.3: a step that tells -1 is not made good by a later literal.
func TestAllStaysWithoutRoom(t *testing.T) {
	s := withRoom(t, 0)
	for _, l := range [][]int{{2, 4, 0}, {2, 4, 5}, {2, 4, 2}, {2, 4, 1, 0}} {
		want(t, "All", s.All(l), -1)
	}
	want(t, "All that folds", s.All([]int{2, 1, 2, 3, 6, 8}), 0)
	want(t, "All of none", s.All(nil), 1)
	want(t, "Mux whose second And folds", s.Mux(2, 4, 0), -1)
	want(t, "Mux whose first And folds", s.Mux(2, 0, 4), -1)
	want(t, "Mux of which no And folds", s.Mux(2, 4, 6), -1)
	want(t, "Mux that folds", s.Mux(2, 1, 0), 2)
	wantGates(t, s, maxNodes)
}

// P7.4: what a net's variables are in the store.
func TestCopy(t *testing.T) {
	small := net(in(), in(), gate(5, 2), in(), gate(6, 9))
	for _, c := range []struct {
		name  string
		n     []api.Node
		ins   []int
		want  []int
		added []api.Node // behind the inputs 2, 4 and 6
	}{
		{"none", nil, nil, []int{0}, nil},
		{"none, by inputs", nil, []int{2, 4}, []int{0}, nil},
		{"new inputs", inputs(2), nil, []int{0, 8, 10}, net(in(), in())},
		{"as many inputs", small, []int{2, 4, 6}, []int{0, 2, 4, 8, 6, 10}, net(gate(2, 5), gate(7, 8))},
		{"in another order", small, []int{6, 2, 4}, []int{0, 6, 2, 8, 4, 10}, net(gate(3, 6), gate(5, 8))},
		{"inverses", small, []int{3, 5, 7}, []int{0, 3, 5, 8, 7, 10}, net(gate(3, 4), gate(6, 8))},
		{"fewer inputs", small, []int{4}, []int{0, 4, 8, 10, 12, 14}, net(in(), gate(4, 9), in(), gate(10, 13))},
		{"no inputs", small, nil, []int{0, 8, 10, 12, 14, 16}, net(in(), in(), gate(8, 11), in(), gate(12, 15))},
		{"more inputs", small, []int{2, 4, 6, 3, 1}, []int{0, 2, 4, 8, 6, 10}, net(gate(2, 5), gate(7, 8))},
		{"one twice", small, []int{2, 2, 4}, []int{0, 2, 2, 0, 4, 0}, nil},
		{"a gate that folds to an inverse", small, []int{1, 2, 0}, []int{0, 1, 2, 3, 0, 3}, nil},
		{"0 and 1", small, []int{1, 0, 0}, []int{0, 1, 0, 1, 0, 1}, nil},
		{"of the variable 0", net(gate(1, 1), gate(0, 2), gate(2, 5)), nil, []int{0, 1, 0, 1}, nil},
		{"gates that are alike", net(in(), in(), gate(2, 4), gate(4, 2), gate(6, 8), gate(6, 9)), []int{6, 2},
			[]int{0, 6, 2, 8, 8, 8, 0}, net(gate(2, 6))},
	} {
		s := storeOf(t, 3)
		wantList(t, c.name, s.Copy(c.n, c.ins), c.want)
		if n := s.Net(); !slices.Equal(n, append(inputs(3), c.added...)) {
			t.Errorf("%s: the net is %v", c.name, n)
		}
	}
}

// P7.4: gates that are there are not put there again, and new inputs are.
func TestCopyTwice(t *testing.T) {
	small := net(in(), in(), gate(5, 2), in(), gate(6, 9))
	s := storeOf(t, 3)
	want(t, "And", s.And(5, 2), 8)
	wantList(t, "Copy", s.Copy(small, []int{2, 4, 6}), []int{0, 2, 4, 8, 6, 10})
	wantList(t, "Copy once more", s.Copy(small, []int{2, 4, 6}), []int{0, 2, 4, 8, 6, 10})
	wantGates(t, s, 3, gate(2, 5), gate(7, 8))
	wantList(t, "Copy of gates", s.Copy(small, []int{8, 3, 10}), []int{0, 8, 3, 12, 10, 14})
	wantList(t, "Copy of fewer", s.Copy(small, []int{2, 4}), []int{0, 2, 4, 8, 16, 18})
	wantGates(t, s, 3, gate(2, 5), gate(7, 8), gate(2, 8), gate(11, 12), in(), gate(8, 17))
}

// P7.4: of a literal that is none of the store nothing is put there, whether it would be taken or not.
func TestCopyOfNoLiteral(t *testing.T) {
	small := net(in(), in(), gate(5, 2), in(), gate(6, 9))
	for _, l := range append([]int{6, 7, 8}, noLits...) {
		for _, ins := range [][]int{{l}, {l, 2, 4}, {2, l, 4}, {2, 4, l}, {2, 4, 2, l}, {2, 4, 3, 5, 0, l}} {
			s := storeOf(t, 2)
			for _, n := range [][]api.Node{small, nil, net(gate(0, 0)), inputs(1)} {
				if got := s.Copy(n, ins); len(got) != 0 {
					t.Errorf("of %v: %v", ins, got)
				}
			}
			wantGates(t, s, 2)
		}
	}
}

// P7.4: at MaxNodes no more is put there, and what was put there ahead stays.
func TestCopyWithoutRoom(t *testing.T) {
	small := net(in(), gate(3, 1), in(), gate(5, 7), in(), gate(8, 10), gate(2, 4))
	for room := range 7 {
		s := withRoom(t, room)
		had := 2 * (maxNodes - room)
		added := net(in(), gate(4, had+3), in(), gate(had+4, had+6))
		var should []int
		if room >= len(added) {
			should = []int{0, 4, 5, had + 2, had + 4, had + 6, had + 8, 0}
		}
		wantList(t, "Copy", s.Copy(small, []int{4}), should)
		got := s.Net()
		if now := min(room, len(added)); !slices.Equal(got[maxNodes-room:], added[:now]) {
			t.Errorf("with room for %d: %v", room, got[maxNodes-room:])
		}
	}
}

// P7.4: a full store takes a net all of whose steps are there or fold.
func TestCopyToFull(t *testing.T) {
	s := withRoom(t, 1)
	const last = 2 * maxNodes
	want(t, "And", s.And(2, 5), last)
	n := net(in(), in(), gate(5, 2), gate(6, 2), gate(7, 6))
	wantList(t, "Copy", s.Copy(n[:3], []int{2, 4}), []int{0, 2, 4, last})
	wantList(t, "Copy of what folds", s.Copy(n, []int{2, 1}), []int{0, 2, 1, 0, 0, 0})
	wantList(t, "Copy of a new gate", s.Copy(n, []int{2, 4}), nil)
	wantList(t, "Copy of a new input", s.Copy(n, []int{2}), nil)
	wantList(t, "Copy of none", s.Copy(nil, nil), []int{0})
	want(t, "Len", s.Len(), maxNodes)
}

// P7.4: Net is a list of its own.
func TestNetOfItsOwn(t *testing.T) {
	s := storeOf(t, 2)
	s.And(2, 4)
	one, two := s.Net(), s.Net()
	for i := range one {
		one[i] = gate(77, 77)
	}
	_ = append(one, in())
	if !slices.Equal(two, net(in(), in(), gate(2, 4))) {
		t.Error("one net changes another one", two)
	}
	wantGates(t, s, 2, gate(2, 4))
	s.And(3, 5)
	if len(two) != 3 {
		t.Error("a store changes its net", two)
	}
	_ = append(two, in())
	want(t, "And", s.And(2, 4), 6)
	wantGates(t, s, 2, gate(2, 4), gate(3, 5))
}

// P7.1, P7.4: lists that are told are lists of their own, and what is handed in stays as it was.
func TestMemory(t *testing.T) {
	n := append(make([]api.Node, 0, 9), in(), in(), gate(5, 2))
	ins := append(make([]int, 0, 9), 4, 2)
	s := storeOf(t, 2)
	one := s.Copy(n, ins)
	two := s.Copy(n, ins)
	one[1], two[2] = 99, 98
	_, _ = append(one, 7), append(two, 7)
	wantList(t, "Copy", s.Copy(n, ins), []int{0, 4, 2, 6})
	levels, vars := aig.Levels(n), aig.Inputs(n)
	levels[0], vars[0] = 55, 55
	wantList(t, "Levels", aig.Levels(n), []int{0, 0, 0, 1})
	wantList(t, "Inputs", aig.Inputs(n), []int{1, 2})
	s.All(ins)
	s.All(ins[:1])
	aig.Check(n)
	if !slices.Equal(n[:cap(n)], append(net(in(), in(), gate(5, 2)), make([]api.Node, 6)...)) {
		t.Error("a net was changed", n[:cap(n)])
	}
	wantList(t, "ins", ins[:cap(ins)], []int{4, 2, 0, 0, 0, 0, 0, 0, 0})
	n[2], ins[0] = gate(3, 4), 3
	wantGates(t, s, 2, gate(3, 4), gate(2, 4))
	wantList(t, "Copy", s.Copy(n, ins), []int{0, 3, 2, 2})
}

// P7.4: a clone goes its own way, and so does what it was made of.
func TestClone(t *testing.T) {
	s := storeOf(t, 2)
	s.And(2, 4)
	one := s.Clone()
	wantGates(t, one, 2, gate(2, 4))
	want(t, "And of the clone", one.And(4, 2), 6)
	want(t, "And of the clone, new", one.And(3, 5), 8)
	wantGates(t, s, 2, gate(2, 4))
	want(t, "a literal of the clone alone", s.And(8, 2), -1)
	want(t, "And, new", s.And(3, 4), 8)
	want(t, "And, new in both", s.And(3, 5), 10)
	want(t, "Input of the clone", one.Input(), 10)
	want(t, "And of the clone, new later", one.And(4, 3), 12)
	wantGates(t, s, 2, gate(2, 4), gate(3, 4), gate(3, 5))
	if n := one.Net(); !slices.Equal(n, net(in(), in(), gate(2, 4), gate(3, 5), in(), gate(3, 4))) {
		t.Error(n)
	}
	none := aig.New().Clone()
	if none == nil {
		t.Fatal("the clone of an empty store is nil")
	}
	want(t, "Input", none.Input(), 2)
	want(t, "Input", none.Input(), 4)
	want(t, "And", none.And(2, 4), 6)
}

// P7.4: of a nil store there is nothing.
func TestNil(t *testing.T) {
	var s *aig.Store
	for _, l := range []int{-1, 0, 1, 2, math.MaxInt} {
		for _, x := range []int{-1, 0, 1, 2} {
			want(t, "And", s.And(l, x), -1)
			want(t, "Or", s.Or(l, x), -1)
			want(t, "Xor", s.Xor(l, x), -1)
			want(t, "Mux", s.Mux(l, x, 1), -1)
		}
		want(t, "All", s.All([]int{l}), -1)
		want(t, "Copy", len(s.Copy(nil, []int{l})), 0)
		want(t, "Copy", len(s.Copy(inputs(1), []int{l})), 0)
	}
	want(t, "Input", s.Input(), -1)
	want(t, "All of none", s.All(nil), -1)
	want(t, "Copy of none", len(s.Copy(nil, nil)), 0)
	want(t, "Copy", len(s.Copy(net(gate(1, 1)), nil)), 0)
	want(t, "Net", len(s.Net()), 0)
	want(t, "Len", s.Len(), 0)
	if s.Clone() != nil {
		t.Error("its clone is not nil")
	}
}

// What a store is that New did not make is open, but it does not panic.
func TestZeroStore(t *testing.T) {
	var s aig.Store
	s.Input()
	s.Input()
	s.And(2, 4)
	s.Clone().And(3, 5)
	var c aig.Store
	c.Clone().Copy(net(in(), in(), gate(5, 2)), nil)
	c.Copy(net(in(), in(), gate(5, 2)), nil)
	c.Xor(2, 4)
	c.Net()
}

// draw is numbers that look as if drawn.
type draw uint64

// below is the next one, below n.
func (d *draw) below(n int) int {
	*d = *d*6364136223846793005 + 1442695040888963407
	return int(uint64(*d>>33) % uint64(n))
}

// twin is a store that looks for a gate among all its nodes, and works out one step at a time.
type twin struct{ nodes []api.Node }

func (w *twin) has(l ...int) bool {
	for _, x := range l {
		if x < 0 || x/2 > len(w.nodes) {
			return false
		}
	}
	return true
}

func (w *twin) put(x api.Node) int {
	w.nodes = append(w.nodes, x)
	return 2 * len(w.nodes)
}

func (w *twin) and(a, b int) int {
	if !w.has(a, b) {
		return -1
	}
	if a > b {
		a, b = b, a
	}
	if a == 0 || a^1 == b {
		return 0
	}
	if a == 1 || a == b {
		return b
	}
	if at := slices.Index(w.nodes, gate(a, b)); at >= 0 {
		return 2*at + 2
	}
	return w.put(gate(a, b))
}

func (w *twin) or(a, b int) int {
	if !w.has(a, b) {
		return -1
	}
	return w.and(a^1, b^1) ^ 1
}

func (w *twin) mux(c, a, b int) int {
	if !w.has(c, a, b) {
		return -1
	}
	yes := w.and(c, a)
	no := w.and(c^1, b)
	return w.or(yes, no)
}

func (w *twin) xor(a, b int) int {
	if !w.has(a, b) {
		return -1
	}
	return w.mux(a, b^1, b)
}

func (w *twin) all(l []int) int {
	if !w.has(l...) {
		return -1
	}
	all := 1
	for _, x := range l {
		all = w.and(all, x)
	}
	return all
}

func (w *twin) copy(n []api.Node, ins []int) []int {
	if !w.has(ins...) {
		return nil
	}
	lits, k := []int{0}, 0
	for _, x := range n {
		switch {
		case x.A >= 0:
			lits = append(lits, w.and(lits[x.A/2]^x.A%2, lits[x.B/2]^x.B%2))
		case k < len(ins):
			lits = append(lits, ins[k])
			k++
		default:
			lits = append(lits, w.put(in()))
		}
	}
	return lits
}

// someNet is a drawn net of so many nodes.
func someNet(d *draw, many int) []api.Node {
	var n []api.Node
	for i := range many {
		if d.below(3) == 0 {
			n = append(n, in())
		} else {
			n = append(n, gate(d.below(2*i+2), d.below(2*i+2)))
		}
	}
	return n
}

// someLits are so many drawn literals, hardly ever one that is none of so many nodes.
func someLits(d *draw, nodes, many int) []int {
	l := make([]int, many)
	for i := range l {
		l[i] = d.below(2*nodes + 2)
		if d.below(60) == 0 {
			l[i] = []int{-1, -2, 2*nodes + 2, 2*nodes + 3, math.MaxInt}[d.below(5)]
		}
	}
	return l
}

// change does one drawn thing to a store and to its twin, and tells what both answered.
func change(d *draw, s *aig.Store, w *twin) (got, should []int) {
	l := someLits(d, len(w.nodes), 3)
	a, b, c := l[0], l[1], l[2]
	switch d.below(8) {
	case 0:
		return []int{s.Input()}, []int{w.put(in())}
	case 1, 2:
		return []int{s.And(a, b)}, []int{w.and(a, b)}
	case 3:
		return []int{s.Or(a, b)}, []int{w.or(a, b)}
	case 4:
		return []int{s.Xor(a, b)}, []int{w.xor(a, b)}
	case 5:
		return []int{s.Mux(c, a, b)}, []int{w.mux(c, a, b)}
	case 6:
		l = someLits(d, len(w.nodes), d.below(6))
		return []int{s.All(l)}, []int{w.all(l)}
	}
	l = someLits(d, len(w.nodes), d.below(6))
	n := someNet(d, d.below(8))
	return s.Copy(n, l), w.copy(n, l)
}

// P7.2 to P7.5: a store, and one that looks at all its nodes, answer alike, and have the same net.
func TestTwin(t *testing.T) {
	for seed := range 60 {
		d, s, w := draw(seed), aig.New(), &twin{}
		for step := range 120 {
			if got, should := change(&d, s, w); !slices.Equal(got, should) {
				t.Fatalf("seed %d, step %d: %v, not %v", seed, step, got, should)
			}
			if n := s.Net(); !slices.Equal(n, w.nodes) || s.Len() != len(n) {
				t.Fatalf("seed %d, step %d: the net is %v, not %v", seed, step, n, w.nodes)
			}
			if step%9 == 0 {
				s = s.Clone()
			}
		}
		wantClean(t, s)
	}
}

// wantClean holds a store's net against what it must not have.
func wantClean(t *testing.T, s *aig.Store) {
	t.Helper()
	n := s.Net()
	if e := aig.Check(n); e != api.OK {
		t.Fatal("the net isn't good:", e)
	}
	seen := map[[2]int]bool{}
	for i, x := range n {
		if x.A < 0 {
			continue
		}
		pair := [2]int{min(x.A, x.B), max(x.A, x.B)}
		switch {
		case x.A < 2 || x.B < 2:
			t.Fatalf("the gate %d is of 0 or 1: %v", i+1, x)
		case x.A/2 == x.B/2:
			t.Fatalf("the gate %d has one variable twice: %v", i+1, x)
		case x.A > x.B:
			t.Fatalf("the gate %d has the greater literal as its A: %v", i+1, x)
		case seen[pair]:
			t.Fatalf("the gate %d is there twice: %v", i+1, x)
		}
		seen[pair] = true
	}
}

// P7.1: each gate's level is one more than that of the one of its two that is farther up, and inputs' is 0.
func TestLevelsOfSomeNets(t *testing.T) {
	for seed := range 200 {
		d := draw(seed)
		n := someNet(&d, seed)
		levels := aig.Levels(n)
		if len(levels) != len(n)+1 || levels[0] != 0 {
			t.Fatal(seed, levels)
		}
		var vars []int
		for i, x := range n {
			should := 0
			if x.A < 0 {
				vars = append(vars, i+1)
			} else {
				should = max(levels[x.A/2], levels[x.B/2]) + 1
			}
			want(t, "the level", levels[i+1], should)
		}
		wantList(t, "Inputs", aig.Inputs(n), vars)
	}
}

// The values of four inputs in all sixteen rows.
var columns = []uint16{0xaaaa, 0xcccc, 0xf0f0, 0xff00}

// table is the values of a net's variables, in each row, by those of its inputs; inputs behind the last one are 0.
func table(n []api.Node, ins []uint16) []uint16 {
	vals := []uint16{0}
	for _, x := range n {
		switch {
		case x.A >= 0:
			vals = append(vals, of(vals, x.A)&of(vals, x.B))
		case len(ins) > 0:
			vals = append(vals, ins[0])
			ins = ins[1:]
		default:
			vals = append(vals, 0)
		}
	}
	return vals
}

// of is a literal's values.
func of(vals []uint16, l int) uint16 {
	if l%2 == 1 {
		return ^vals[l/2]
	}
	return vals[l/2]
}

// meant are literals of a store, with what they should be.
type meant struct {
	s    *aig.Store
	lits []int
	vals []uint16
}

// add puts one more there.
func (m *meant) add(l int, vals uint16) {
	m.lits, m.vals = append(m.lits, l), append(m.vals, vals)
}

// pick is a drawn one.
func (m *meant) pick(d *draw) (int, uint16) {
	at := d.below(len(m.lits))
	if d.below(2) == 0 {
		return m.lits[at] ^ 1, ^m.vals[at]
	}
	return m.lits[at], m.vals[at]
}

// grow puts a drawn thing there.
func (m *meant) grow(d *draw) {
	a, x := m.pick(d)
	b, y := m.pick(d)
	c, z := m.pick(d)
	switch d.below(6) {
	case 0:
		m.add(m.s.And(a, b), x&y)
	case 1:
		m.add(m.s.Or(a, b), x|y)
	case 2:
		m.add(m.s.Xor(a, b), x^y)
	case 3:
		m.add(m.s.Mux(c, a, b), z&x|^z&y)
	case 4:
		m.add(m.s.All([]int{a, b, c, a}), x&y&z)
	case 5:
		n := slices.DeleteFunc(someNet(d, 9), func(x api.Node) bool { return x.A < 0 })
		n = regular(append(inputs(3), n...))
		vals := table(n, []uint16{x, y, z})
		for v, l := range m.s.Copy(n, []int{a, b, c}) {
			m.add(l, vals[v])
		}
	}
}

// regular is a net whose gates' literals are brought below their own ones.
func regular(n []api.Node) []api.Node {
	for i, x := range n {
		if x.A >= 0 {
			n[i] = gate(x.A%(2*i+2), x.B%(2*i+2))
		}
	}
	return n
}

// P7.5: literals are what the words say, whatever the inputs are, and the net is good and has nothing twice.
func TestMeaning(t *testing.T) {
	for seed := range 80 {
		d, m := draw(seed), &meant{s: storeOf(t, len(columns))}
		m.add(0, 0)
		for i, x := range columns {
			m.add(2*(i+1), x)
		}
		for range 80 {
			m.grow(&d)
		}
		vals := table(m.s.Net(), columns)
		for i, l := range m.lits {
			if l < 0 || l/2 >= len(vals) {
				t.Fatalf("seed %d: the literal %d is none", seed, l)
			}
			if got := of(vals, l); got != m.vals[i] {
				t.Fatalf("seed %d: the literal %d is %04x, not %04x", seed, l, got, m.vals[i])
			}
		}
		wantClean(t, m.s)
	}
}

// P7.4, P7.5: a store's own net, copied to another store by its inputs, is that net again.
func TestCopyOfNet(t *testing.T) {
	for seed := range 40 {
		d, s, w := draw(seed+500), aig.New(), &twin{}
		for range 60 {
			change(&d, s, w)
		}
		other := aig.New()
		var should []int
		for v := range s.Len() + 1 {
			should = append(should, 2*v)
		}
		wantList(t, "Copy", other.Copy(s.Net(), nil), should)
		if !slices.Equal(other.Net(), s.Net()) {
			t.Fatal(seed, other.Net(), s.Net())
		}
	}
}

// P7.5: gates without end, each new one of the last two; all of them are found again.
func TestMany(t *testing.T) {
	s := storeOf(t, 2)
	l := []int{2, 4}
	for i := 2; i < 200000; i++ {
		l = append(l, s.And(l[i-1]^1, l[i-2]))
	}
	for i, x := range l {
		if x != 2*(i+1) {
			t.Fatal(i, x)
		}
		if i >= 2 && s.And(l[i-2], l[i-1]^1) != x {
			t.Fatal(i, x)
		}
	}
	want(t, "Len", s.Len(), 200000)
	wantClean(t, s)
}

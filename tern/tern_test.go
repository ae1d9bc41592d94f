package tern_test

import (
	"math"
	"slices"
	"strings"
	"testing"

	"latchet/aig"
	"latchet/api"
	"latchet/lit"
	"latchet/sim"
	"latchet/tern"
	"latchet/tri"
)

const (
	zero = api.Zero
	one  = api.One
	free = api.Free
)

// Written out by themselves, so that one that is one off is seen.
const (
	maxNodes = 1048576
	full     = 0xffffffffffffffff
	top      = 0x8000000000000000
)

// noLits are numbers that are no literal of any variable.
var noLits = []int{-1, -2, -3, -4, -7, math.MinInt, math.MinInt + 1, 2*(1<<24) + 2, 2*(1<<24) + 3, 1 << 32, 1<<32 + 2, 1 << 62, math.MaxInt - 1, math.MaxInt}

// noValues are numbers that are no values.
var noValues = []int{-1, -2, -3, math.MinInt, math.MinInt + 1, 3, 4, 5, 48, 49, 120, 256, 257, 1 << 32, 1<<32 + 1, math.MaxInt - 1, math.MaxInt}

// in is an input.
func in() api.Node { return api.Node{A: -1} }

// gate is a gate of two literals.
func gate(a, b int) api.Node { return api.Node{A: a, B: b} }

// net is a list of nodes.
func net(l ...api.Node) []api.Node { return l }

// lits is a list of literals.
func lits(l ...int) []int { return l }

// vals is values as they are written with 0, 1 and x.
func vals(text string) []int {
	var l []int
	for _, c := range text {
		l = append(l, strings.IndexRune("01x", c))
	}
	return l
}

// text is the other way round.
func text(l []int) string {
	var s strings.Builder
	for _, v := range l {
		if v < zero || v > free {
			return "no values"
		}
		s.WriteByte("01x"[v])
	}
	return s.String()
}

// bits is truths as they are written with 0 and 1.
func bits(text string) []bool {
	var l []bool
	for _, c := range text {
		l = append(l, c == '1')
	}
	return l
}

// word is a word of bits that are One, and of bits that are Zero.
func word(ones, zeros uint64) tri.Word { return tri.Word{Ones: ones, Zeros: zeros} }

// words is a list of words.
func words(l ...tri.Word) []tri.Word { return l }

// wantList holds a list against what it should be.
func wantList[T comparable](t *testing.T, what string, got, should []T) {
	t.Helper()
	if !slices.Equal(got, should) {
		t.Errorf("%s is %v, not %v", what, got, should)
	}
}

// wantEval holds all variables' values against what they should be.
func wantEval(t *testing.T, n []api.Node, ins, should string) {
	t.Helper()
	if got := text(tern.Eval(n, vals(ins))); got != should {
		t.Errorf("Eval of %v by %q is %q, not %q", n, ins, got, should)
	}
}

// wantSure holds whether literals are One against whether they should be.
func wantSure(t *testing.T, n []api.Node, ins string, l []int, should bool) {
	t.Helper()
	if got := tern.Sure(n, vals(ins), l); got != should {
		t.Errorf("Sure of %v by %q for %v is %v", n, ins, l, got)
	}
}

// wantDrop holds what is left of inputs against what should be.
func wantDrop(t *testing.T, n []api.Node, ins string, l []int, keep, should string) {
	t.Helper()
	if got := text(tern.Drop(n, vals(ins), l, bits(keep))); got != should {
		t.Errorf("Drop of %v by %q for %v, keeping %q, is %q, not %q", n, ins, l, keep, got, should)
	}
}

// some is a net of the inputs 1, 2, 5 and 9, with gates between them: 3 is 1 and not 2, 4 is not 3, 6 is 5 and not 4,
// 7 is both literals of 5, 8 is 2 twice, 10 is 9 and never, 11 is always, 12 is both literals of 11, 13 is not 9 twice.
func some() []api.Node {
	return net(in(), in(), gate(2, 5), gate(7, 1), in(), gate(10, 9), gate(10, 11), gate(4, 4),
		in(), gate(18, 0), gate(1, 1), gate(23, 22), gate(19, 19))
}

// P10.1: the value of each variable from 0 on, the inputs being what is handed in, one by one.
func TestEval(t *testing.T) {
	for _, c := range []struct{ ins, want string }{
		{"0000", "00001000000101"},
		{"1011", "01010110010100"},
		{"1111", "01101100110100"},
		{"xxxx", "0xxxxxxxxx010x"},
		{"0x1x", "00x01100xx010x"},
		{"1x1x", "01xxx1x0xx010x"},
		{"10x0", "01010xxx000101"},
		{"x1x1", "0x101x0x110100"},
		{"xxx1", "0xxxxxxxx10100"},
		{"xx0x", "0xxxx000xx010x"},
		// fewer than there are inputs: the others are Free
		{"", "0xxxxxxxxx010x"},
		{"0", "00x01x0xxx010x"},
		{"10", "01010xxx0x010x"},
		{"1x1", "01xxx1x0xx010x"},
		// more than there are
		{"1x1x0", "01xxx1x0xx010x"},
		{"xxxx1111111111111111", "0xxxxxxxxx010x"},
		{"1011000", "01010110010100"},
	} {
		wantEval(t, some(), c.ins, c.want)
	}
	wantEval(t, net(in(), in(), gate(3, 4)), "1x", "01x0")
}

// and is both, as the document's words have it.
func and(a, b int) int {
	switch {
	case a == zero || b == zero:
		return zero
	case a == one && b == one:
		return one
	}
	return free
}

// not is the inverse.
func not(a int) int { return []int{one, zero, free}[a] }

// P10.1: a gate of each two values, of each two literals of theirs, in both orders.
func TestTwoInputs(t *testing.T) {
	for a := range 3 {
		for b := range 3 {
			ins := []int{a, b}
			for way := range 4 {
				x, y := a, b
				if way&1 == 1 {
					x = not(a)
				}
				if way&2 == 2 {
					y = not(b)
				}
				n := net(in(), in(), gate(2+way&1, 4+way>>1), gate(4+way>>1, 2+way&1))
				should := []int{zero, a, b, and(x, y), and(x, y)}
				wantList(t, "Eval", tern.Eval(n, ins), should)
				for i, w := range tern.Words(n, words(tri.All(a), tri.All(b))) {
					if w != tri.All(should[i]) {
						t.Errorf("by %v the variable %d is %x", ins, i, w)
					}
				}
			}
		}
	}
	n := net(in(), in(), gate(2, 4))
	wantEval(t, n, "0x", "00x0")
	wantEval(t, n, "x0", "0x00")
	wantEval(t, n, "1x", "01xx")
	wantEval(t, n, "x1", "0x1x")
}

// P10.1: each gate of two literals of a variable, of one literal twice, and of the variable 0, by an input's values.
func TestGates(t *testing.T) {
	for _, c := range []struct {
		a, b int
		want string // by Zero, One and Free
	}{
		{0, 0, "000"}, {0, 1, "000"}, {1, 0, "000"}, {1, 1, "111"},
		{0, 2, "000"}, {2, 0, "000"}, {0, 3, "000"}, {3, 0, "000"},
		{1, 2, "01x"}, {2, 1, "01x"}, {1, 3, "10x"}, {3, 1, "10x"},
		{2, 2, "01x"}, {3, 3, "10x"}, {2, 3, "00x"}, {3, 2, "00x"},
	} {
		n := net(in(), gate(c.a, c.b))
		for v := range 3 {
			wantEval(t, n, "01x"[v:v+1], "0"+"01x"[v:v+1]+c.want[v:v+1])
		}
		// the input is Zero in the lowest 4, One in the 4 ahead of these, Free in the others
		told := tern.Words(n, words(word(0xf0, 0xf)))
		for i := range 64 {
			if got := tri.At(told[2], i); got != vals(c.want)[min(i/4, 2)] {
				t.Errorf("the gate of %d and %d is %d in the bit %d", c.a, c.b, got, i)
			}
		}
	}
	alone := net(gate(0, 0), gate(1, 1), gate(0, 1), gate(5, 4), gate(5, 5), gate(4, 1))
	wantEval(t, alone, "", "0010001")
	wantEval(t, alone, "x1", "0010001")
}

// P10.1: numbers that are no values count as Free, and are told as Free.
func TestNoValues(t *testing.T) {
	n := net(in(), gate(2, 1), gate(3, 1), gate(2, 0), in(), gate(2, 10))
	for _, v := range noValues {
		wantList(t, "Eval", tern.Eval(n, []int{v, zero}), vals("0xxx000"))
		wantList(t, "Eval", tern.Eval(n, []int{one, v}), vals("01100xx"))
		wantList(t, "Eval", tern.Eval(n, []int{v, v, v}), vals("0xxx0xx"))
		if tern.Sure(n, []int{v, one}, lits(2)) || tern.Sure(n, []int{v, one}, lits(3)) || !tern.Sure(n, []int{v, one}, lits(10)) {
			t.Error("Sure of", v)
		}
		wantList(t, "Drop", tern.Drop(n, []int{v, one}, lits(9), nil), vals("xx"))
		wantList(t, "Drop", tern.Drop(n, []int{v, one}, lits(10), bits("11")), vals("x1"))
		wantList(t, "Drop", tern.Drop(n, []int{one, v}, lits(4), bits("01")), vals("1x"))
		wantList(t, "Drop", tern.Drop(n, []int{v, one}, lits(2), nil), nil)
	}
}

// P10.1: a node is an input if its A is below 0, and what its B is plays no part.
func TestOddInputs(t *testing.T) {
	for _, a := range []int{-1, -2, -77, math.MinInt} {
		for _, b := range append([]int{0, 1, 2, 3, 4, 5, 6, 99}, noLits...) {
			n := net(in(), gate(a, b), gate(4, 3), gate(a, b))
			wantEval(t, n, "0x1", "00xx1")
			wantEval(t, n, "1x0", "01x00")
			wantList(t, "Words", tern.Words(n, words(word(1, 2), word(2, 4), word(4, 8))),
				words(word(0, full), word(1, 2), word(2, 4), word(2, 5), word(4, 8)))
			wantDrop(t, n, "011", lits(6), "", "01x")
		}
	}
}

// P10.1, P10.2: nets of no nodes, and nets of inputs alone.
func TestNoGates(t *testing.T) {
	for _, n := range [][]api.Node{nil, net()} {
		for _, ins := range []string{"", "0", "1", "x", "1x0"} {
			wantEval(t, n, ins, "0")
			wantSure(t, n, ins, nil, true)
			wantSure(t, n, ins, lits(1), true)
			wantSure(t, n, ins, lits(0), false)
			wantSure(t, n, ins, lits(2), false)
			wantSure(t, n, ins, lits(3), false)
			wantDrop(t, n, ins, nil, "", "")
			wantDrop(t, n, ins, lits(1), "11", "")
			wantDrop(t, n, ins, lits(2), "11", "")
		}
		for _, ins := range [][]tri.Word{nil, words(), words(word(full, 0)), words(word(full, full), word(1, 2))} {
			wantList(t, "Words", tern.Words(n, ins), words(word(0, full)))
		}
	}
	three := net(in(), in(), in())
	wantEval(t, three, "1x0", "01x0")
	wantEval(t, three, "1", "01xx")
	wantEval(t, three, "", "0xxx")
	wantList(t, "Words", tern.Words(three, words(word(3, 4), word(top, 1))), words(word(0, full), word(3, 4), word(top, 1), word(0, 0)))
	wantDrop(t, three, "101", lits(2, 5), "", "10x")
	wantDrop(t, three, "101", lits(7), "", "")
}

// P10.1: the words of each variable from 0 on, bit by bit; no bit is in both words of what is told.
func TestWords(t *testing.T) {
	never, always, open := word(0, full), word(full, 0), word(0, 0)
	n := net(in(), in(), gate(2, 4), in(), gate(3, 5), gate(11, 8), gate(0, 8), gate(1, 9))
	for _, c := range []struct{ ins, want []tri.Word }{
		{nil, words(never, open, open, open, open, open, open, never, open)},
		{words(), words(never, open, open, open, open, open, open, never, open)},
		// each bit by itself, the lowest and the highest one among them
		{words(word(top+1, 2), word(1, top+4), word(top+6, 1)), words(never,
			word(top+1, 2), word(1, top+4), word(1, top+6), word(top+6, 1), word(0, top+1), word(top, 1), never, word(1, top+6))},
		{words(always, word(top, 1), open), words(never,
			always, word(top, 1), word(top, 1), open, never, open, never, open)},
		{words(word(top, top-1), never, word(full-1, 1)), words(never,
			word(top, top-1), never, never, word(full-1, 1), word(top-1, top), word(top, top-1), never, word(1, full-1))},
		// bits that are in both words are Free
		{words(word(full, full), word(full, top+1), word(top+3, full-2)), words(never,
			open, word(full-top-1, 0), open, word(2, full-top-3), word(0, full-top-1), word(2, full-top-3), never, word(full-top-3, 2))},
		{words(word(1, 1), word(1, 1), word(1, 1)), words(never, open, open, open, open, open, open, never, open)},
		// fewer and more than there are inputs
		{words(always), words(never, always, open, open, open, never, open, never, open)},
		{words(always, always), words(never, always, always, always, open, never, open, never, open)},
		{words(open, open, always, never, never), words(never, open, open, open, always, open, open, never, never)},
	} {
		wantList(t, "Words", tern.Words(n, c.ins), c.want)
	}
}

// P10.2: whether all literals are One; one that is of no variable is Free, those of the variable 0 are as always.
func TestSure(t *testing.T) {
	n := net(in(), in(), gate(3, 4), in()) // 3 is not 1, and 2
	for _, c := range []struct {
		ins  string
		l    []int
		want bool
	}{
		{"xxx", nil, true}, {"xxx", lits(), true}, {"", nil, true}, {"000", nil, true},
		{"xxx", lits(1), true}, {"xxx", lits(0), false}, {"xxx", lits(1, 1), true}, {"xxx", lits(1, 0), false}, {"111", lits(0), false},
		{"01x", lits(3, 4, 6), true}, {"01x", lits(6, 1, 6), true}, {"01x", lits(6, 6, 6), true},
		{"01x", lits(2), false}, {"01x", lits(5), false}, {"01x", lits(7), false},
		{"01x", lits(6, 8), false}, {"01x", lits(6, 9), false}, {"01x", lits(8, 6), false}, {"01x", lits(8, 9), false},
		{"011", lits(6, 8), true}, {"010", lits(6, 9), true}, {"011", lits(6, 9), false},
		{"1xx", lits(7), true}, {"x0x", lits(7), true}, {"0xx", lits(7), false}, {"x1x", lits(7), false}, {"xxx", lits(6), false},
		// a literal and its inverse's
		{"01x", lits(6, 7), false}, {"01x", lits(7, 6), false}, {"1xx", lits(2, 3), false}, {"xxx", lits(2, 3), false}, {"xxx", lits(1, 0), false},
		// the last variable, and one more
		{"xx1", lits(8), true}, {"xx0", lits(9), true}, {"xx1", lits(10), false}, {"xx1", lits(11), false}, {"xx1", lits(8, 10), false}, {"xx1", lits(11, 8), false},
		{"xx11", lits(10), false}, {"xx10", lits(11), false},
		// fewer values than there are inputs, and more
		{"01", lits(6), true}, {"01", lits(8), false}, {"01", lits(9), false}, {"0", lits(3), true}, {"0", lits(6), false}, {"", lits(7), false},
		{"0111111", lits(6, 8), true}, {"011000", lits(6, 8), true},
	} {
		wantSure(t, n, c.ins, c.l, c.want)
	}
	for _, l := range noLits {
		for _, ins := range []string{"", "xxx", "000", "111", "1111111"} {
			wantSure(t, n, ins, lits(l), false)
			wantSure(t, n, ins, lits(1, l), false)
			wantSure(t, n, ins, lits(l, 1), false)
			wantDrop(t, n, ins, lits(1, l), "", "")
		}
	}
}

// anyOf is a net of three inputs with a gate between them: the literal 11 is whether one of them is One.
func anyOf() []api.Node { return net(in(), in(), gate(3, 5), in(), gate(6, 9)) }

// allOf is another one: the literal 10 is whether all of them are One.
func allOf() []api.Node { return net(in(), in(), gate(2, 4), in(), gate(6, 8)) }

// P10.2: from the first input on each that is not Free, and not kept, becomes Free, if the literals are One even so.
func TestDrop(t *testing.T) {
	shown := net(in(), in(), gate(3, 4))
	// both ways of choosing: 4 is 1 and 2, 5 is not 1 and 3, the literal 13 is one of these
	mux := net(in(), in(), in(), gate(2, 4), gate(3, 6), gate(9, 11))
	for _, c := range []struct {
		name       string
		n          []api.Node
		ins        string
		l          []int
		keep, want string
	}{
		{"what is Free already", shown, "1x", lits(7), "", "1x"},
		{"Zero by both", shown, "10", lits(7), "", "x0"},
		{"Zero by both, the first one kept", shown, "10", lits(7), "1", "1x"},
		{"Zero by both, the second one kept", shown, "10", lits(7), "01", "x0"},
		{"Zero by both, both kept", shown, "10", lits(7), "11", "10"},
		{"One by both", shown, "01", lits(6), "", "01"},
		{"not Sure at first", shown, "01", lits(7), "", ""},
		{"not Sure at first, being Free", shown, "0x", lits(7), "11", ""},
		{"not Sure at first, one of two", shown, "01", lits(6, 2), "", ""},
		{"not Sure at first, of the variable 0", shown, "01", lits(0), "", ""},
		{"not Sure at first, of no variable", shown, "01", lits(8), "", ""},
		{"not Sure at first, both literals", shown, "01", lits(3, 2), "", ""},
		{"for none", shown, "01", nil, "", "xx"},
		{"for none, one kept", shown, "01", nil, "01", "x1"},
		{"for none, more kept than there are", shown, "01", lits(), "1111", "01"},
		{"for the literal 1", shown, "01", lits(1), "01", "x1"},
		{"for an input", shown, "11", lits(2), "", "1x"},
		{"for the last one", shown, "11", lits(4), "", "x1"},
		{"for an input twice", shown, "11", lits(2, 2), "", "1x"},
		{"for an input and what it makes", shown, "10", lits(2, 7), "", "1x"},
		{"for what another one makes, too", shown, "10", lits(7, 5), "", "x0"},
		{"one of three, the last one stays", anyOf(), "111", lits(11), "", "xx1"},
		{"one of three, the last one Zero", anyOf(), "110", lits(11), "", "x1x"},
		{"one of three, the last ones Zero", anyOf(), "100", lits(11), "", "1xx"},
		{"one of three, the first one kept", anyOf(), "111", lits(11), "1", "1xx"},
		{"one of three, the second one kept", anyOf(), "111", lits(11), "01", "x1x"},
		{"one of three, two kept", anyOf(), "111", lits(11), "011", "x11"},
		{"one of three, a Free one kept", anyOf(), "x11", lits(11), "1", "xx1"},
		{"one of three, all kept", anyOf(), "1x1", lits(11), "111", "1x1"},
		{"one of three, fewer values", anyOf(), "11", lits(11), "", "x1x"},
		{"one of three, one value", anyOf(), "1", lits(11), "", "1xx"},
		{"one of three, no values", anyOf(), "", lits(11), "", ""},
		{"one of three, more values", anyOf(), "1110101", lits(11), "", "xx1"},
		{"one of three, more values and keeps", anyOf(), "111111", lits(11), "0101111", "x1x"},
		{"none of three", anyOf(), "000", lits(10), "", "000"},
		{"all of three", allOf(), "111", lits(10), "", "111"},
		{"not all of three", allOf(), "101", lits(11), "", "x0x"},
		{"not all of three, of two", allOf(), "001", lits(11), "", "x0x"},
		{"not all of three, the first one", allOf(), "0xx", lits(11), "", "0xx"},
		{"not all of three, fewer values", allOf(), "1x0", lits(11), "", "xx0"},
		{"not all of three, and one of them", allOf(), "101", lits(11, 2), "", "10x"},
		{"not all of two, and not all of three", allOf(), "000", lits(7, 11), "", "x0x"},
		{"chosen", mux, "110", lits(13), "", "11x"},
		{"chosen the other way", mux, "001", lits(13), "", "0x1"},
		{"chosen of two that are alike", mux, "111", lits(13), "", "11x"},
		{"not chosen", mux, "101", lits(12), "", "10x"},
		{"not chosen of two that are alike", mux, "100", lits(12), "", "x00"},
		{"not chosen of two that are alike, the first one kept", mux, "100", lits(12), "1", "10x"},
	} {
		if got := text(tern.Drop(c.n, vals(c.ins), c.l, bits(c.keep))); got != c.want {
			t.Errorf("Drop, %s, is %q, not %q", c.name, got, c.want)
		}
	}
}

// P10.2: gates of the variable 0, of one literal twice, of both literals of a variable, and alike ones.
func TestDropOfOddGates(t *testing.T) {
	wantDrop(t, some(), "1111", lits(21, 22, 25), "", "xxxx") // of the variable 0
	wantDrop(t, some(), "1101", lits(16), "", "x1xx")         // 2 twice
	wantDrop(t, some(), "1001", lits(17), "", "x0xx")
	wantDrop(t, some(), "1110", lits(26), "", "xxx0") // not 9 twice
	wantDrop(t, some(), "1111", lits(27), "", "xxx1")
	wantDrop(t, some(), "1111", lits(15), "", "xx1x") // never, but by 5 alone it is known
	wantDrop(t, some(), "1101", lits(15), "", "xx0x")
	wantDrop(t, some(), "11x1", lits(15), "", "")
	wantDrop(t, some(), "1010", lits(12), "", "101x")
	wantDrop(t, some(), "1010", lits(12, 26), "0001", "1010")
	wantDrop(t, some(), "0110", lits(8), "", "x1xx")
	wantDrop(t, some(), "0010", lits(8), "", "0xxx")
	wantDrop(t, some(), "0110", lits(8, 13), "", "x1xx")
	alike := net(in(), in(), gate(2, 4), gate(4, 2), gate(7, 9), gate(6, 8))
	wantDrop(t, alike, "00", lits(10), "", "x0")
	wantDrop(t, alike, "00", lits(10, 13), "1", "0x")
	wantDrop(t, alike, "11", lits(12, 11), "", "11")
	// 3 and 4 are one of them each; the literal 11 needs one of these, and so the input that both are of
	split := net(in(), in(), gate(2, 4), in(), gate(2, 8), gate(7, 11))
	wantDrop(t, split, "111", lits(13), "", "1x1")
	wantDrop(t, split, "011", lits(7, 11), "", "0xx")
	wantDrop(t, split, "000", lits(7, 11), "", "x00")
	wantDrop(t, split, "000", lits(7, 11, 12), "1", "0xx")
}

// line is a net of as many nodes as there may be: an input, and gates each of which is the inverse of the node ahead.
func line() []api.Node {
	n := net(in())
	for v := 2; v <= maxNodes; v++ {
		n = append(n, gate(2*(v-1)+1, 1))
	}
	return n
}

// P10.1 to P10.3: a net of as many nodes as there may be, each on the one before it.
func TestMany(t *testing.T) {
	n := line()
	last := 2 * maxNodes
	for at := range 3 {
		ins := []int{at}
		told := tern.Eval(n, ins)
		if len(told) != maxNodes+1 || told[0] != zero {
			t.Fatal(len(told))
		}
		w := tern.Words(n, words(tri.All(at)))
		if len(w) != maxNodes+1 || w[0] != tri.All(zero) {
			t.Fatal(len(w))
		}
		for v := 1; v <= maxNodes; v++ {
			should := at
			if v%2 == 0 {
				should = not(at)
			}
			if told[v] != should || w[v] != tri.All(should) {
				t.Fatalf("by %d the variable %d is %d and %x", at, v, told[v], w[v])
			}
		}
		wantList(t, "Sure", []bool{tern.Sure(n, ins, lits(last)), tern.Sure(n, ins, lits(last+1)), tern.Sure(n, ins, lits(last+2))}, []bool{at == zero, at == one, false})
		wantList(t, "Drop for none", tern.Drop(n, ins, nil, nil), vals("x"))
		wantList(t, "Drop for none, kept", tern.Drop(n, ins, nil, bits("1")), ins)
	}
	wantDrop(t, n, "0", lits(last), "", "0")
	wantDrop(t, n, "1", lits(last+1, 2, 5), "", "1")
	wantDrop(t, n, "1", lits(last), "", "")
	wantDrop(t, n, "1", lits(last+2), "", "")
}

// chain is a net of as many inputs as fit, each with a gate of it and of the gate ahead, of their inverses if it is so.
func chain(inverse int) []api.Node {
	n := net(in())
	ahead := 2 + inverse
	for len(n)+2 <= maxNodes {
		v := len(n) + 1
		n = append(n, in(), gate(ahead, 2*v+inverse))
		ahead = 2 * (v + 1)
	}
	return n
}

// P10.2: of very many inputs all are needed, or one alone, or all but one are dropped from the first one on.
func TestDropOfMany(t *testing.T) {
	const many = maxNodes / 2
	ones := slices.Repeat([]int{one}, many)
	all, last := chain(0), 2*(maxNodes-1)
	wantAlike(t, "Drop for all of them", tern.Drop(all, ones, lits(last), nil), ones)
	none := slices.Repeat([]int{zero}, many)
	wantAlike(t, "Drop for none of them", tern.Drop(chain(1), none, lits(last), nil), none)
	should := slices.Repeat([]int{free}, many)
	should[many-1] = zero
	wantAlike(t, "Drop for not all of them", tern.Drop(all, none, lits(last+1), nil), should)
	should[many-1] = one
	wantAlike(t, "Drop for one of them", tern.Drop(chain(1), ones, lits(last+1), nil), should)
	should[many-1], should[7] = free, one
	keep := make([]bool, many)
	keep[7] = true
	wantAlike(t, "Drop for one of them, with one kept", tern.Drop(chain(1), ones, lits(last+1), keep), should)
	wantAlike(t, "Drop for none, with one kept", tern.Drop(all, ones, nil, keep), should)
	// the first one, or all others: once the first one is dropped, all others are needed
	either := append(chain(0), gate(last+1, 3))
	either[2] = gate(4, 4)
	should = slices.Clone(ones)
	should[0] = free
	wantAlike(t, "Drop for the first one or all others", tern.Drop(either, ones, lits(2*maxNodes+1), nil), should)
}

// wantAlike holds long lists against one another.
func wantAlike(t *testing.T, what string, got, should []int) {
	t.Helper()
	if !slices.Equal(got, should) {
		t.Errorf("%s is another one, of %d and not %d", what, len(got), len(should))
	}
}

// Of nets that are not good anything may be told, but without a panic.
func TestNotGood(t *testing.T) {
	bad := [][]api.Node{
		net(gate(2, 2)), net(in(), gate(9, 2)), net(in(), gate(2, -1)), net(gate(math.MaxInt, math.MinInt)),
		net(in(), gate(6, 2), gate(4, 2)), slices.Repeat(net(gate(1, 1)), maxNodes+1), append(line(), gate(2, 4)),
	}
	for _, l := range noLits {
		bad = append(bad, net(in(), in(), gate(2, l)), net(in(), in(), gate(max(l, 0), 77)), net(in(), gate(max(l, 0), l), gate(4, 2)))
	}
	for _, n := range bad {
		for many := range 4 {
			ins := slices.Repeat([]int{one}, many)
			tern.Eval(n, ins)
			tern.Words(n, make([]tri.Word, many))
			for _, l := range [][]int{nil, lits(1), lits(2), lits(3, 4), noLits} {
				tern.Sure(n, ins, l)
				tern.Drop(n, ins, l, make([]bool, 3-many))
			}
		}
	}
}

// roomy is a list with spare room behind it that is marked.
func roomy[T any](mark T, l ...T) []T {
	room := append(slices.Clip(slices.Clone(l)), mark, mark, mark)
	return room[:len(l)]
}

// P10.1, P10.2: what is handed in stays as it was, its spare room, too.
func TestHandedIn(t *testing.T) {
	n := roomy(gate(0, 1), some()...)
	for many := range 6 {
		hadWords := words(word(1, 2), word(full, full), word(3, 4), word(top, 1), word(1, 1))[:many]
		had := vals("10110")[:many]
		ins, in64 := roomy(77, had...), roomy(word(7, 7), hadWords...)
		keep, l := roomy(true, bits("01010")[:many]...), roomy(99, lits(22, 1, 21, 25)[:min(many, 4)]...)
		tern.Eval(n, ins)
		tern.Words(n, in64)
		tern.Sure(n, ins, l)
		if len(tern.Drop(n, ins, l, keep)) != 4 {
			t.Error("Drop of", many)
		}
		tern.Drop(n, ins, roomy(99, 16), keep)
		wantList(t, "ins", ins[:many+3], append(slices.Clone(had), 77, 77, 77))
		wantList(t, "words", in64[:many+3], append(slices.Clone(hadWords), word(7, 7), word(7, 7), word(7, 7)))
		wantList(t, "keep", keep[:many+3], append(bits("01010")[:many], true, true, true))
		wantList(t, "literals", l[:len(l)+3], append(lits(22, 1, 21, 25)[:len(l)], 99, 99, 99))
	}
	wantList(t, "the net", n[:len(n)+3], append(some(), gate(0, 1), gate(0, 1), gate(0, 1)))
}

// spoil overwrites a list and its spare room.
func spoil[T any](l []T, with T) {
	for i := range l[:cap(l)] {
		l[:cap(l)][i] = with
	}
}

// P10.1, P10.2: lists that are told are lists of their own.
func TestMemory(t *testing.T) {
	for _, n := range [][]api.Node{some(), nil, net(in()), net(in(), in(), in(), in())} {
		ins, in64 := vals("1011"), words(word(1, 2), word(2, 1), word(4, 3), word(8, 4))
		told := tern.Eval(n, ins)
		had := slices.Clone(told)
		spoil(tern.Eval(n, ins), 77)
		wantList(t, "the other Eval", told, had)
		w := tern.Words(n, in64)
		hadWords := slices.Clone(w)
		spoil(tern.Words(n, in64), word(7, 7))
		wantList(t, "the other Words", w, hadWords)
		left := tern.Drop(n, ins, nil, bits("1111"))
		hadLeft := slices.Clone(left)
		spoil(tern.Drop(n, ins, nil, bits("1111")), 77)
		wantList(t, "the other Drop", left, hadLeft)
		wantList(t, "ins", ins, vals("1011"))
		wantList(t, "words", in64, words(word(1, 2), word(2, 1), word(4, 3), word(8, 4)))
		spoil(ins, 77)
		spoil(in64, word(7, 7))
		wantList(t, "Eval of what was changed since", told, had)
		wantList(t, "Words of what was changed since", w, hadWords)
		wantList(t, "Drop of what was changed since", left, hadLeft)
	}
}

// draw is numbers that look as if drawn.
type draw uint64

// below is the next one, below n.
func (d *draw) below(n int) int {
	*d = *d*6364136223846793005 + 1442695040888963407
	return int(uint64(*d>>33) % uint64(n))
}

// bits64 is the next 64 bits.
func (d *draw) bits64() uint64 {
	return uint64(d.below(1<<31))<<33 ^ uint64(d.below(1<<31))<<13 ^ uint64(d.below(1<<31))
}

// valuesOf is so many drawn values, of which some are Free, one of so many.
func (d *draw) valuesOf(many, open int) []int {
	l := make([]int, many)
	for i := range l {
		if l[i] = d.below(2); d.below(open) == 0 {
			l[i] = free
		}
	}
	return l
}

// someNet is a drawn net of so many nodes, some of its inputs odd.
func someNet(d *draw, many int) []api.Node {
	var n []api.Node
	for i := range many {
		switch kind := d.below(8); {
		case kind < 3:
			n = append(n, gate(-1-d.below(3), d.below(40)-20))
		case kind < 6 && i > 4: // of those just ahead, so that it gets deep
			n = append(n, gate(2*i-d.below(8), 2*i-d.below(8)))
		default:
			n = append(n, gate(d.below(2*i+2), d.below(2*i+2)))
		}
	}
	return n
}

// valueOf is a literal's value, by what the nodes say, down to the inputs.
func valueOf(n []api.Node, ins []int, l int) int {
	if lit.Neg(l) {
		return not(valueOf(n, ins, lit.Not(l)))
	}
	v := lit.Var(l)
	switch {
	case v == 0:
		return zero
	case v < 0 || v > len(n):
		return free
	case n[v-1].A >= 0:
		return and(valueOf(n, ins, n[v-1].A), valueOf(n, ins, n[v-1].B))
	}
	if k := slices.Index(aig.Inputs(n), v); k < len(ins) {
		return ins[k]
	}
	return free
}

// sure tells whether literals are One, one by one.
func sure(n []api.Node, ins []int, l []int) bool {
	for _, x := range l {
		if valueOf(n, ins, x) != one {
			return false
		}
	}
	return true
}

// dropped is what Drop should tell, by trying each input with all others as they are by then.
func dropped(n []api.Node, ins []int, l []int, keep []bool) []int {
	if !sure(n, ins, l) {
		return nil
	}
	left := slices.Repeat([]int{free}, len(aig.Inputs(n)))
	copy(left, ins)
	for k, had := range left {
		if had == free || k < len(keep) && keep[k] {
			continue
		}
		left[k] = free
		if !sure(n, left, l) {
			left[k] = had
		}
	}
	return left
}

// P10.1, P10.2: Eval is what each node says by itself, and Sure what literals are by it.
func TestEvalTwin(t *testing.T) {
	for seed := range 400 {
		d := draw(seed)
		n := someNet(&d, d.below(20))
		for range 4 {
			ins := d.valuesOf(d.below(len(n)+2), 1+d.below(4))
			var should []int
			for v := range len(n) + 1 {
				should = append(should, valueOf(n, ins, 2*v))
			}
			wantList(t, "Eval", tern.Eval(n, ins), should)
			for l := range 2*len(n) + 6 {
				m := d.below(2*len(n) + 2)
				for _, list := range [][]int{lits(l), lits(l, m), lits(m, l, m)} {
					if got := tern.Sure(n, ins, list); got != sure(n, ins, list) {
						t.Errorf("Sure for %v is %v", list, got)
					}
				}
			}
			if t.Failed() {
				t.Fatalf("seed %d: %v by %v", seed, n, ins)
			}
		}
	}
}

// P10.1: each of the 64 of Words is Eval of that one, and no bit is in both words, whatever was handed in.
func TestWordsTwin(t *testing.T) {
	for seed := range 100 {
		d := draw(seed + 1000)
		n := someNet(&d, d.below(24))
		ins := make([]tri.Word, d.below(len(n)+2))
		for k := range ins {
			ins[k] = word(d.bits64(), d.bits64())
		}
		w := tern.Words(n, ins)
		for i := range 64 {
			var one64, told []int
			for _, x := range ins {
				one64 = append(one64, tri.At(x, i))
			}
			for _, x := range w {
				told = append(told, tri.At(x, i))
			}
			wantList(t, "one of the 64", told, tern.Eval(n, one64))
		}
		for v, x := range w {
			if x.Ones&x.Zeros != 0 {
				t.Errorf("of the variable %d bits are in both words: %x", v, x)
			}
		}
		if t.Failed() {
			t.Fatalf("seed %d: %v by %x", seed, n, ins)
		}
	}
}

// someOnes is a few literals that are One, and now and then another one.
func someOnes(d *draw, told []int) []int {
	var ones, l []int
	for v, is := range told {
		switch is {
		case one:
			ones = append(ones, 2*v)
		case zero:
			ones = append(ones, 2*v+1)
		}
	}
	for range d.below(4) {
		l = append(l, ones[d.below(len(ones))], ones[len(ones)-1-d.below(min(len(ones), 4))])
	}
	if d.below(10) == 0 {
		l = append(l, d.below(2*len(told)+4))
	}
	return l
}

// P10.2, P10.3: Drop is what comes of trying each input by itself; behind it none more can be dropped that is not kept.
func TestDropTwin(t *testing.T) {
	for seed := range 3000 {
		d := draw(seed + 2000)
		n := someNet(&d, 1+d.below(24))
		ins := d.valuesOf(d.below(len(n)+2), 2+d.below(12))
		l := someOnes(&d, tern.Eval(n, ins))
		keep := make([]bool, d.below(len(n)+2))
		for k := range keep {
			keep[k] = d.below(4) == 0
		}
		left := tern.Drop(n, ins, l, keep)
		wantList(t, "Drop", left, dropped(n, ins, l, keep))
		if left != nil && !tern.Sure(n, left, l) {
			t.Error("behind Drop they are not Sure")
		}
		for k, v := range left {
			left[k] = free
			if v != free && (k >= len(keep) || !keep[k]) && tern.Sure(n, left, l) {
				t.Errorf("behind Drop the input %d can be dropped", k)
			}
			left[k] = v
		}
		if t.Failed() {
			t.Fatalf("seed %d: %v by %v for %v, keeping %v", seed, n, ins, l, keep)
		}
	}
}

// fillings is all ways of filling values that may be open.
func fillings(ins []int) [][]bool {
	l := [][]bool{nil}
	for _, v := range ins {
		var more [][]bool
		for _, filled := range l {
			if v != one {
				more = append(more, append(slices.Clone(filled), false))
			}
			if v != zero {
				more = append(more, append(slices.Clone(filled), true))
			}
		}
		l = more
	}
	return l
}

// P10.3: what is Zero or One is so, whatever the open inputs are; what Drop leaves makes the literals so, whatever they are.
func TestAllFillings(t *testing.T) {
	for seed := range 300 {
		d := draw(seed + 6000)
		n := someNet(&d, 1+d.below(16))
		ins := d.valuesOf(len(aig.Inputs(n)), 1+d.below(4))
		told := tern.Eval(n, ins)
		l := someOnes(&d, told)
		left := tern.Drop(n, ins, l, nil)
		for _, filled := range fillings(ins) {
			for v, so := range sim.Eval(n, filled) {
				if told[v] != free && (told[v] == one) != so {
					t.Errorf("the variable %d is %v by %v, but %d by %v", v, so, filled, told[v], ins)
				}
			}
		}
		for _, filled := range fillings(left) {
			values := sim.Eval(n, filled)
			for _, x := range l {
				if left != nil && !sim.Lit(values, x) {
					t.Errorf("the literal %d is not so by %v, although Drop left %v", x, filled, left)
				}
			}
		}
		if t.Failed() {
			t.Fatalf("seed %d: %v by %v for %v", seed, n, ins, l)
		}
	}
}

// P10.1, P10.2: the same call tells the same.
func TestSameAgain(t *testing.T) {
	for seed := range 50 {
		d := draw(seed + 9000)
		n := someNet(&d, d.below(30))
		ins, in64 := d.valuesOf(d.below(9), 3), words(word(d.bits64(), d.bits64()), word(d.bits64(), d.bits64()))
		l := someOnes(&d, tern.Eval(n, ins))
		wantList(t, "Eval", tern.Eval(n, ins), tern.Eval(n, ins))
		wantList(t, "Words", tern.Words(n, in64), tern.Words(n, in64))
		wantList(t, "Drop", tern.Drop(n, ins, l, nil), tern.Drop(n, ins, l, nil))
	}
}

package sim_test

import (
	"math"
	"slices"
	"testing"

	"latchet/aig"
	"latchet/api"
	"latchet/lit"
	"latchet/sim"
)

// Written out by themselves, so that one that is one off is seen.
const (
	maxNodes = 1048576
	full     = 0xffffffffffffffff
	top      = 0x8000000000000000
)

// noLits are numbers that are no literal of any variable.
var noLits = []int{-1, -2, -3, -4, -7, math.MinInt, math.MinInt + 1, 2*(1<<24) + 2, 2*(1<<24) + 3, 1 << 32, 1<<32 + 2, 1 << 62, math.MaxInt - 1, math.MaxInt}

// noLanes are numbers of no bit of a word.
var noLanes = []int{-1, -2, -3, -63, -64, -65, math.MinInt, math.MinInt + 1, 64, 65, 66, 127, 128, 256, 1 << 32, 1<<32 + 5, math.MaxInt - 1, math.MaxInt}

// in is an input.
func in() api.Node { return api.Node{A: -1} }

// gate is a gate of two literals.
func gate(a, b int) api.Node { return api.Node{A: a, B: b} }

// net is a list of nodes.
func net(l ...api.Node) []api.Node { return l }

// bits is values as they are written with 0 and 1.
func bits(text string) []bool {
	var l []bool
	for _, c := range text {
		l = append(l, c == '1')
	}
	return l
}

// lists is lists of such values.
func lists(texts ...string) [][]bool {
	var l [][]bool
	for _, text := range texts {
		l = append(l, bits(text))
	}
	return l
}

// words is a list of words.
func words(l ...uint64) []uint64 { return l }

// wantList holds a list against what it should be.
func wantList[T comparable](t *testing.T, what string, got, should []T) {
	t.Helper()
	if !slices.Equal(got, should) {
		t.Errorf("%s is %v, not %v", what, got, should)
	}
}

// wantLit holds a literal's value against what it should be.
func wantLit(t *testing.T, vals []bool, l int, should bool) {
	t.Helper()
	if got := sim.Lit(vals, l); got != should {
		t.Errorf("Lit of %d by %v is %v, not %v", l, vals, got, should)
	}
}

// wantWord holds a literal's values against what they should be.
func wantWord(t *testing.T, vals []uint64, l int, should uint64) {
	t.Helper()
	if got := sim.Word(vals, l); got != should {
		t.Errorf("Word of %d by %x is %x, not %x", l, vals, got, should)
	}
}

// some is a net of the inputs 1, 2, 5 and 9, with gates between them: 3 is 1 and not 2, 4 is not 3, 6 is 5 and 3,
// 7 is both literals of 5, 8 is 2 twice, 10 is 9 and never, 11 is always, 12 is both literals of 11, 13 is not 9 twice.
func some() []api.Node {
	return net(in(), in(), gate(2, 5), gate(7, 1), in(), gate(10, 9), gate(10, 11), gate(4, 4),
		in(), gate(18, 0), gate(1, 1), gate(23, 22), gate(19, 19))
}

// P9.1: the value of each variable from 0 on, the inputs being what is handed in, one by one.
func TestEval(t *testing.T) {
	for _, c := range []struct{ ins, want string }{
		{"0000", "00001000000101"},
		{"1000", "01010000000101"},
		{"0100", "00101000100101"},
		{"0010", "00001100000101"},
		{"0001", "00001000010100"},
		{"1010", "01010110000101"},
		{"1011", "01010110010100"},
		{"1111", "01101100110100"},
		// fewer than there are inputs
		{"", "00001000000101"},
		{"0", "00001000000101"},
		{"1", "01010000000101"},
		{"11", "01101000100101"},
		{"101", "01010110000101"},
		// more than there are
		{"10100", "01010110000101"},
		{"10101", "01010110000101"},
		{"00001", "00001000000101"},
		{"111111111", "01101100110100"},
	} {
		wantList(t, "Eval of "+c.ins, sim.Eval(some(), bits(c.ins)), bits(c.want))
	}
	n := net(in(), in(), gate(2, 5))
	wantList(t, "Eval of 10", sim.Eval(n, bits("10")), bits("0101"))
	wantList(t, "Eval of 11", sim.Eval(n, bits("11")), bits("0110"))
}

// P9.1: each gate of two literals of a variable, of one literal twice, and of the variable 0, by both values of an input.
func TestGates(t *testing.T) {
	for _, c := range []struct {
		a, b      int
		low, high bool // by the input's values
	}{
		{0, 0, false, false}, {0, 1, false, false}, {1, 0, false, false}, {1, 1, true, true},
		{0, 2, false, false}, {2, 0, false, false}, {0, 3, false, false}, {3, 0, false, false},
		{1, 2, false, true}, {2, 1, false, true}, {1, 3, true, false}, {3, 1, true, false},
		{2, 2, false, true}, {3, 3, true, false}, {2, 3, false, false}, {3, 2, false, false},
	} {
		n := net(in(), gate(c.a, c.b))
		wantList(t, "Eval of 0", sim.Eval(n, bits("0")), []bool{false, false, c.low})
		wantList(t, "Eval of 1", sim.Eval(n, bits("1")), []bool{false, true, c.high})
		should := words(0, 0xf0f0, 0)
		if c.high {
			should[2] = 0xf0f0
		}
		if c.low {
			should[2] |= 0xffffffffffff0f0f
		}
		wantList(t, "Words", sim.Words(n, words(0xf0f0)), should)
	}
	alone := net(gate(0, 0), gate(1, 1), gate(0, 1), gate(5, 4), gate(5, 5), gate(4, 1))
	wantList(t, "Eval of gates alone", sim.Eval(alone, nil), bits("0010001"))
	wantList(t, "Words of gates alone", sim.Words(alone, words(77)), words(0, 0, full, 0, 0, 0, full))
}

// P9.1, P9.2: a node is an input if its A is below 0, and what its B is plays no part.
func TestOddInputs(t *testing.T) {
	for _, a := range []int{-1, -2, -77, math.MinInt} {
		for _, b := range append([]int{0, 1, 2, 3, 4, 5, 6, 99}, noLits...) {
			n := net(in(), gate(a, b), gate(4, 3), gate(a, b))
			wantList(t, "Eval", sim.Eval(n, bits("011")), bits("00111"))
			wantList(t, "Words", sim.Words(n, words(5, 6, 7)), words(0, 5, 6, 2, 7))
		}
	}
}

// P9.1, P9.2: nets of no nodes, and nets of inputs alone.
func TestNoGates(t *testing.T) {
	for _, n := range [][]api.Node{nil, net()} {
		for _, ins := range []string{"", "0", "1", "11"} {
			wantList(t, "Eval", sim.Eval(n, bits(ins)), bits("0"))
		}
		for _, ins := range [][]uint64{nil, {}, {0}, {full}, {1, 2}} {
			wantList(t, "Words", sim.Words(n, ins), words(0))
		}
	}
	wantList(t, "Eval", sim.Eval(net(in(), in(), in()), bits("101")), bits("0101"))
	wantList(t, "Eval", sim.Eval(net(in(), in(), in()), bits("11")), bits("0110"))
	wantList(t, "Eval", sim.Eval(net(in(), in(), in()), nil), bits("0000"))
	wantList(t, "Words", sim.Words(net(in(), in(), in()), words(3, 0, top)), words(0, 3, 0, top))
	wantList(t, "Words", sim.Words(net(in(), in(), in()), words(full)), words(0, full, 0, 0))
}

// P9.1: a literal's value, by those of the variables.
func TestLit(t *testing.T) {
	for _, zero := range []bool{false, true} { // what vals say of the variable 0
		vals := []bool{zero, true, false, true}
		for l, should := range bits("0110011000") { // past the last one it is no
			wantLit(t, vals, l, should)
		}
		for _, l := range noLits {
			wantLit(t, vals, l, false)
		}
		wantLit(t, vals[:1], 0, false)
		wantLit(t, vals[:1], 1, true)
		wantLit(t, vals[:1], 2, false)
		wantLit(t, vals[:1], 3, false)
	}
	for _, vals := range [][]bool{nil, {}} {
		wantLit(t, vals, 0, false)
		wantLit(t, vals, 1, true)
		for _, l := range append([]int{2, 3, 4, 5}, noLits...) {
			wantLit(t, vals, l, false)
		}
	}
}

// P9.2: a literal's 64, by those of the variables.
func TestWord(t *testing.T) {
	for _, zero := range words(0, full, 77) { // what vals say of the variable 0
		vals := words(zero, 0xf0, 0, full, top+1)
		for l, should := range words(0, full, 0xf0, 0xffffffffffffff0f, 0, full, full, 0, 0x8000000000000001, 0x7ffffffffffffffe, 0, 0, 0, 0) {
			wantWord(t, vals, l, should)
		}
		for _, l := range noLits {
			wantWord(t, vals, l, 0)
		}
		wantWord(t, vals[:1], 0, 0)
		wantWord(t, vals[:1], 1, full)
		wantWord(t, vals[:1], 2, 0)
		wantWord(t, vals[:1], 3, 0)
	}
	for _, vals := range [][]uint64{nil, {}} {
		wantWord(t, vals, 0, 0)
		wantWord(t, vals, 1, full)
		for _, l := range append([]int{2, 3, 4, 5}, noLits...) {
			wantWord(t, vals, l, 0)
		}
	}
}

// P9.1, P9.2: what vals say past the last variable there is (1<<24) is of no literal.
func TestLitOfTooMany(t *testing.T) {
	const last = 1 << 24
	vals := slices.Repeat([]bool{true}, last+3)
	wantLit(t, vals, 2*last, true)
	wantLit(t, vals, 2*last+1, false)
	vals[last] = false
	wantLit(t, vals, 2*last, false)
	wantLit(t, vals, 2*last+1, true)
	wantLit(t, vals, 2*last+2, false)
	wantLit(t, vals, 2*last+4, false)
}

// P9.2: the words of each variable from 0 on, bit by bit.
func TestWords(t *testing.T) {
	for _, c := range []struct{ ins, want []uint64 }{
		{words(0xc, 0xa, 0, 0), words(0, 0xc, 0xa, 4, full-4, 0, 0, 0, 0xa, 0, 0, full, 0, full)},
		{words(full, top, full, 1), words(0, full, top, top-1, top, full, top-1, 0, top, 1, 0, full, 0, full-1)},
		{words(top+1, 0, top), words(0, top+1, 0, top+1, top-2, top, top, 0, 0, 0, 0, full, 0, full)},
		{words(1, 0, 1, 0), words(0, 1, 0, 1, full-1, 1, 1, 0, 0, 0, 0, full, 0, full)},
		{words(5), words(0, 5, 0, 5, full-5, 0, 0, 0, 0, 0, 0, full, 0, full)},
		{words(5, 4), words(0, 5, 4, 1, full-1, 0, 0, 0, 4, 0, 0, full, 0, full)},
		{words(5, 4, 7, 6, full), words(0, 5, 4, 1, full-1, 7, 1, 0, 4, 6, 0, full, 0, full-6)},
		{words(0, 0, 0, 0, full, full), words(0, 0, 0, 0, full, 0, 0, 0, 0, 0, 0, full, 0, full)},
		{nil, words(0, 0, 0, 0, full, 0, 0, 0, 0, 0, 0, full, 0, full)},
		{words(), words(0, 0, 0, 0, full, 0, 0, 0, 0, 0, 0, full, 0, full)},
	} {
		wantList(t, "Words", sim.Words(some(), c.ins), c.want)
	}
}

// P9.2: a bit of each word, the lowest one being the 0th.
func TestLane(t *testing.T) {
	w := words(1, top, full, 0, 6, top+1, 1<<32, 1<<31)
	for i := range 64 {
		should := make([]bool, len(w))
		should[0], should[1], should[2] = i == 0, i == 63, true
		should[4], should[5] = i == 1 || i == 2, i == 0 || i == 63
		should[6], should[7] = i == 32, i == 31
		wantList(t, "Lane", sim.Lane(w, i), should)
	}
	wantList(t, "Lane of 0", sim.Lane(w, 0), bits("10100100"))
	wantList(t, "Lane of 63", sim.Lane(w, 63), bits("01100100"))
	for _, i := range noLanes {
		wantList(t, "Lane of no bit", sim.Lane(w, i), nil)
	}
	for _, none := range [][]uint64{nil, {}} {
		for _, i := range append([]int{0, 1, 63}, noLanes...) {
			wantList(t, "Lane of no words", sim.Lane(none, i), nil)
		}
	}
}

// P9.2: words of which the i-th bits are the i-th list.
func TestPack(t *testing.T) {
	for _, c := range []struct {
		l    [][]bool
		want []uint64
	}{
		{nil, nil},
		{lists(), nil},
		{[][]bool{nil}, nil},
		{lists("", "", ""), nil},
		{lists("0"), words(0)},
		{lists("1"), words(1)},
		{lists("000"), words(0, 0, 0)},
		{lists("0110"), words(0, 1, 1, 0)},
		{lists("01", "11"), words(2, 3)},
		// of unlike lengths
		{lists("1", "111", "01"), words(3, 6, 2)},
		{lists("111", "1"), words(3, 1, 1)},
		{lists("", "1"), words(2)},
		{lists("1", "", "", "0001"), words(1, 0, 0, 8)},
		{lists("1", "0000"), words(1, 0, 0, 0)},
		{lists("", "", "0"), words(0)},
	} {
		wantList(t, "Pack", sim.Pack(c.l), c.want)
	}
}

// P9.2: of as many lists as a word has bits, and of more, of which those past the 64th play no part, however long they are.
func TestPackOfMany(t *testing.T) {
	just := slices.Repeat(lists("01"), 64)
	wantList(t, "Pack of 63", sim.Pack(just[:63]), words(0, top-1))
	wantList(t, "Pack of 64", sim.Pack(just), words(0, full))
	just[63] = bits("111")
	wantList(t, "Pack of 64", sim.Pack(just), words(top, full, top))
	just[0] = nil
	wantList(t, "Pack of 64", sim.Pack(just), words(top, full-1, top))
	for _, more := range [][][]bool{lists("1111"), lists("", "1", "1111111111"), lists("00000000"), slices.Repeat(lists("11111"), 200)} {
		wantList(t, "Pack of more", sim.Pack(append(slices.Clone(just), more...)), words(top, full-1, top))
		wantList(t, "Pack of more", sim.Pack(append(make([][]bool, 64), more...)), nil)
	}
	for i := range 70 {
		l := make([][]bool, 70)
		l[i] = bits("101")
		should := words(1<<i, 0, 1<<i)
		if i >= 64 {
			should = nil
		}
		wantList(t, "Pack of one of many", sim.Pack(l), should)
	}
}

// long is a net of as many nodes as there may be: an input, and gates each of which is the inverse of the node ahead.
func long() []api.Node {
	n := net(in())
	for v := 2; v <= maxNodes; v++ {
		n = append(n, gate(2*(v-1)+1, 1))
	}
	return n
}

// P9.1 to P9.3: a net of as many nodes as there may be, each on the one before it.
func TestMany(t *testing.T) {
	n := long()
	for _, at := range []bool{false, true} {
		vals := sim.Eval(n, []bool{at})
		if len(vals) != maxNodes+1 {
			t.Fatal(len(vals))
		}
		for v, got := range vals {
			if should := v > 0 && (at == (v%2 == 1)); got != should {
				t.Fatalf("by %v the variable %d is %v", at, v, got)
			}
		}
		wantLit(t, vals, 2*maxNodes, !at)
		wantLit(t, vals, 2*maxNodes+1, at)
		wantLit(t, vals, 2*maxNodes+2, false)
	}
	w := sim.Words(n, words(0xf0))
	if len(w) != maxNodes+1 {
		t.Fatal(len(w))
	}
	for v, got := range w {
		should := uint64(0xf0)
		switch {
		case v == 0:
			should = 0
		case v%2 == 0:
			should = full - 0xf0
		}
		if got != should {
			t.Fatalf("the variable %d is %x", v, got)
		}
	}
	wantWord(t, w, 2*maxNodes+1, 0xf0)
	wantWord(t, w, 2*maxNodes+2, 0)
	for _, i := range []int{0, 4, 63} {
		wantAlike(t, "Lane of Words", sim.Lane(w, i), sim.Eval(n, []bool{i == 4}))
	}
	wantAlike(t, "Words of inputs alone", sim.Words(slices.Repeat(net(in()), maxNodes), w[1:]), w)
	if back := sim.Pack([][]bool{nil, sim.Lane(w, 0), sim.Lane(w, 4)}); len(back) != maxNodes+1 || back[1] != 4 || back[maxNodes] != 2 {
		t.Error("Pack:", len(back))
	}
}

// wantAlike holds long lists against one another.
func wantAlike[T comparable](t *testing.T, what string, got, should []T) {
	t.Helper()
	if !slices.Equal(got, should) {
		t.Errorf("%s is another one, of %d and not %d", what, len(got), len(should))
	}
}

// Of nets that are not good anything may be told, but without a panic.
func TestNotGood(t *testing.T) {
	bad := [][]api.Node{
		net(gate(2, 2)), net(in(), gate(9, 2)), net(in(), gate(2, -1)), net(gate(math.MaxInt, math.MinInt)),
		net(in(), gate(6, 2), gate(4, 2)), slices.Repeat(net(gate(1, 1)), maxNodes+1), append(long(), gate(2, 4)),
	}
	for _, l := range noLits {
		bad = append(bad, net(in(), in(), gate(2, l)), net(in(), in(), gate(max(l, 0), 77)), net(in(), gate(max(l, 0), l), gate(4, 2)))
	}
	for _, n := range bad {
		for many := range 4 {
			sim.Eval(n, make([]bool, many))
			sim.Words(n, make([]uint64, many))
		}
	}
}

// roomy is a list with spare room behind it that is marked.
func roomy[T any](mark T, l ...T) []T {
	room := append(slices.Clip(slices.Clone(l)), mark, mark, mark)
	return room[:len(l)]
}

// P9.1, P9.2: what is handed in stays as it was, its spare room, too.
func TestHandedIn(t *testing.T) {
	n := roomy(gate(0, 1), some()...)
	for many := range 6 {
		ins, in64 := roomy(true, bits("10110")[:many]...), roomy(77, words(1, 2, 3, 4, 5)[:many]...)
		sim.Eval(n, ins)
		sim.Words(n, in64)
		sim.Lane(in64, 2)
		sim.Lit(ins, 3)
		sim.Word(in64, 3)
		l := roomy(bits("1"), ins, nil, bits("01"))
		sim.Pack(l)
		wantList(t, "ins", ins[:many+3], append(bits("10110")[:many], true, true, true))
		wantList(t, "words", in64[:many+3], append(words(1, 2, 3, 4, 5)[:many], 77, 77, 77))
		for i, should := range [][]bool{bits("10110")[:many], nil, bits("01"), bits("1"), bits("1"), bits("1")} {
			wantList(t, "a list to be packed", l[:6][i], should)
		}
	}
	wantList(t, "the net", n[:len(n)+3], append(some(), gate(0, 1), gate(0, 1), gate(0, 1)))
}

// spoil overwrites a list and its spare room.
func spoil[T any](l []T, with T) {
	for i := range l[:cap(l)] {
		l[:cap(l)][i] = with
	}
}

// P9.1, P9.2: lists that are told are lists of their own.
func TestMemory(t *testing.T) {
	for _, n := range [][]api.Node{some(), nil, net(in()), net(in(), in(), in(), in())} {
		ins, in64 := bits("1011"), words(1, 2, 3, 4)
		one, two := sim.Eval(n, ins), sim.Eval(n, ins)
		had := slices.Clone(two)
		spoil(one, true)
		wantList(t, "the other Eval", two, had)
		w, other := sim.Words(n, in64), sim.Words(n, in64)
		hadWords := slices.Clone(other)
		spoil(w, 77)
		wantList(t, "the other Words", other, hadWords)
		wantList(t, "ins", ins, bits("1011"))
		wantList(t, "words", in64, words(1, 2, 3, 4))
		lane := sim.Lane(other, 0)
		hadLane := slices.Clone(lane)
		spoil(sim.Lane(other, 0), true)
		wantList(t, "the other Lane", lane, hadLane)
		l := [][]bool{ins, nil, two}
		pack := sim.Pack(l)
		hadPack := slices.Clone(pack)
		spoil(sim.Pack(l), 77)
		wantList(t, "the other Pack", pack, hadPack)
		wantList(t, "what was packed", ins, bits("1011"))
		spoil(ins, false)
		spoil(in64, 0)
		wantList(t, "Eval of what was changed since", two, had)
		wantList(t, "Words of what was changed since", other, hadWords)
		wantList(t, "Pack of what was changed since", pack, hadPack)
	}
}

// draw is numbers that look as if drawn.
type draw uint64

// below is the next one, below n.
func (d *draw) below(n int) int {
	*d = *d*6364136223846793005 + 1442695040888963407
	return int(uint64(*d>>33) % uint64(n))
}

// word is the next 64 bits.
func (d *draw) word() uint64 {
	return uint64(d.below(1<<31))<<33 ^ uint64(d.below(1<<31))<<13 ^ uint64(d.below(1<<31))
}

// values and wordsOf are so many drawn values, and words.
func (d *draw) values(many int) []bool {
	l := make([]bool, many)
	for i := range l {
		l[i] = d.below(2) == 1
	}
	return l
}

func (d *draw) wordsOf(many int) []uint64 {
	l := make([]uint64, many)
	for i := range l {
		l[i] = d.word()
	}
	return l
}

// someNet is a drawn net of so many nodes, some of its inputs odd.
func someNet(d *draw, many int) []api.Node {
	var n []api.Node
	for i := range many {
		switch kind := d.below(8); {
		case kind < 3:
			n = append(n, gate(-1-d.below(3), d.below(40)-20))
		case kind < 6 && i > 4: // of those just ahead, so that it gets deep
			n = append(n, gate(2*i-d.below(8), 2*i-d.below(8)))
		default:
			n = append(n, gate(d.below(2*i+2), d.below(2*i+2)))
		}
	}
	return n
}

// is tells whether a variable is so, by what its node says, down to the inputs.
func is(n []api.Node, ins []bool, v int) bool {
	if v == 0 {
		return false
	}
	x := n[v-1]
	if x.A < 0 {
		k := slices.Index(aig.Inputs(n), v)
		return k < len(ins) && ins[k]
	}
	return is(n, ins, lit.Var(x.A)) != lit.Neg(x.A) && is(n, ins, lit.Var(x.B)) != lit.Neg(x.B)
}

// P9.1: Eval is what each node says by itself, and Lit what literals are by it.
func TestEvalTwin(t *testing.T) {
	for seed := range 400 {
		d := draw(seed)
		n := someNet(&d, d.below(20))
		for range 4 {
			ins := d.values(d.below(len(n) + 2))
			var should []bool
			for v := range len(n) + 1 {
				should = append(should, is(n, ins, v))
			}
			vals := sim.Eval(n, ins)
			wantList(t, "Eval", vals, should)
			for v, so := range should {
				wantLit(t, vals, 2*v, so)
				wantLit(t, vals, 2*v+1, !so)
			}
			wantLit(t, vals, 2*len(n)+2, false)
			wantLit(t, vals, 2*len(n)+3, false)
			if t.Failed() {
				t.Fatalf("seed %d: %v by %v", seed, n, ins)
			}
		}
	}
}

// P9.3: each Lane of Words is Eval of that Lane, and a literal's Word is its Lit by each.
func TestLaneOfWords(t *testing.T) {
	for seed := range 100 {
		d := draw(seed + 1000)
		n := someNet(&d, d.below(24))
		ins := d.wordsOf(d.below(len(n) + 2))
		w := sim.Words(n, ins)
		if len(w) != len(n)+1 {
			t.Fatalf("seed %d: %d words", seed, len(w))
		}
		for i := range 64 {
			vals := sim.Eval(n, sim.Lane(ins, i))
			wantList(t, "Lane of Words", sim.Lane(w, i), vals)
			for l := range 2*len(n) + 6 {
				if got := sim.Word(w, l)>>i&1 == 1; got != sim.Lit(vals, l) {
					t.Errorf("the bit %d of Word of %d is %v", i, l, got)
				}
			}
		}
		if t.Failed() {
			t.Fatalf("seed %d: %v by %x", seed, n, ins)
		}
	}
}

// P9.3: each Lane of Pack is what was packed, with no behind it up to the longest one's end.
func TestLaneOfPack(t *testing.T) {
	for seed := range 200 {
		d := draw(seed + 2000)
		l := make([][]bool, d.below(90))
		longest := 0
		for i := range l {
			l[i] = d.values(d.below(12))
			if i < 64 {
				longest = max(longest, len(l[i]))
			}
		}
		w := sim.Pack(l)
		for i := range 64 {
			should := make([]bool, longest)
			if i < len(l) {
				copy(should, l[i])
			}
			wantList(t, "Lane of Pack", sim.Lane(w, i), should)
		}
		if t.Failed() {
			t.Fatalf("seed %d: %v", seed, l)
		}
	}
}

// P9.3: what is packed out of all the Lanes of words is these words.
func TestPackOfLanes(t *testing.T) {
	for seed := range 100 {
		d := draw(seed + 3000)
		w := d.wordsOf(d.below(12))
		var l [][]bool
		for i := range 64 {
			l = append(l, sim.Lane(w, i))
		}
		wantList(t, "Pack of all Lanes", sim.Pack(l), w)
	}
}

// P9.1, P9.2: the same call tells the same.
func TestSameAgain(t *testing.T) {
	for seed := range 50 {
		d := draw(seed + 4000)
		n := someNet(&d, d.below(30))
		ins, in64 := d.values(d.below(9)), d.wordsOf(d.below(9))
		wantList(t, "Eval", sim.Eval(n, ins), sim.Eval(n, ins))
		wantList(t, "Words", sim.Words(n, in64), sim.Words(n, in64))
	}
}

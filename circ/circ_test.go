package circ_test

import (
	"math"
	"slices"
	"strings"
	"testing"

	"latchet/aig"
	"latchet/api"
	"latchet/circ"
	"latchet/lit"
	"latchet/sim"
)

// Written out by themselves, so that one that is one off is seen.
const (
	maxIndex = 16777216
	maxNodes = 1048576
)

// noLits are numbers that are no literal of any variable.
var noLits = []int{-1, -2, -3, -4, -7, -8, math.MinInt, math.MinInt + 1, 2*maxIndex + 2, 2*maxIndex + 3, 1 << 32, 1<<32 + 2, 1<<32 + 4, 1 << 62, math.MaxInt - 1, math.MaxInt}

// nums is a list of numbers.
func nums(l ...int) []int { return l }

// latch is a latch.
func latch(l, next, reset int) api.Latch { return api.Latch{Lit: l, Next: next, Reset: reset} }

// gate is a gate of a circuit.
func gate(l, a, b int) api.Gate { return api.Gate{Lit: l, A: a, B: b} }

// in and and are nodes of a net.
func in() api.Node          { return api.Node{A: -1} }
func and(a, b int) api.Node { return api.Node{A: a, B: b} }

// some is a good circuit: the inputs 1 and 5, the latches 4, 2 and 9, the gates 7, 3 and 8; the variables 6 and 10 are
// of none. Its gates don't stand in the order of their numbers, and 7 is made of 3, which stands behind it.
func some() api.Circuit {
	return api.Circuit{
		Max:     10,
		Inputs:  nums(2, 10),
		Latches: []api.Latch{latch(8, 15, 0), latch(4, 4, 4), latch(18, 7, 1)},
		Outs:    nums(14, 0),
		Bads:    nums(17, 8),
		Cons:    nums(3, 1),
		Gates:   []api.Gate{gate(14, 7, 2), gate(6, 9, 5), gate(16, 15, 15)},
		Symbols: []api.Symbol{{Kind: 'i', Index: 1, Name: "x"}, {Kind: 'b', Index: 0, Name: "y z"}},
		Comment: "some\n",
	}
}

// but is some, but for a change.
func but(change func(c *api.Circuit)) api.Circuit {
	c := some()
	change(&c)
	return c
}

// wantList holds a list against what it should be.
func wantList[T comparable](t *testing.T, what string, got, should []T) {
	t.Helper()
	if !slices.Equal(got, should) {
		t.Errorf("%s is %v, not %v", what, got, should)
	}
}

// wantCheck holds what is wrong with a circuit against what should be.
func wantCheck(t *testing.T, what string, c api.Circuit, should api.Errno) {
	t.Helper()
	if got := circ.Check(c); got != should {
		t.Errorf("Check, %s, is %d, not %d", what, got, should)
	}
}

// gates is a circuit of inputs 1 and 2, and gates.
func gates(l ...api.Gate) api.Circuit {
	return api.Circuit{Max: 30, Inputs: nums(2, 4), Gates: l}
}

// wantOrder holds the order of gates against what it should be.
func wantOrder(t *testing.T, c api.Circuit, should ...int) {
	t.Helper()
	if got := circ.Order(c); !slices.Equal(got, should) {
		t.Errorf("Order of %v is %v, not %v", c.Gates, got, should)
	}
}

// P11.1: circuits that are good.
func TestGood(t *testing.T) {
	for _, c := range []struct {
		name string
		c    api.Circuit
	}{
		{"of nothing", api.Circuit{}},
		{"of empty lists", api.Circuit{Inputs: nums(), Latches: []api.Latch{}, Gates: []api.Gate{}}},
		{"of the variable 0 alone", api.Circuit{Outs: nums(0, 1, 0), Bads: nums(1, 0), Cons: nums(1)}},
		{"of variables that are of none", api.Circuit{Max: 7}},
		{"one latch", api.Circuit{Max: 1, Latches: []api.Latch{latch(2, 3, 0)}, Bads: nums(2)}},
		{"some", some()},
		{"asked twice", api.Circuit{Max: 1, Inputs: nums(2), Outs: nums(2, 2, 3), Bads: nums(2, 3), Cons: nums(3, 3)}},
		{"of the last variable alone", api.Circuit{Max: 9, Inputs: nums(18), Outs: nums(18, 19)}},
		{"not in order", api.Circuit{Max: 3, Inputs: nums(6, 2), Latches: []api.Latch{latch(4, 6, 0)}}},
		{"one gate twice, but of two literals", api.Circuit{Max: 3, Inputs: nums(2), Gates: []api.Gate{gate(4, 2, 3), gate(6, 2, 3)}}},
		{"gates of the variable 0", api.Circuit{Max: 3, Gates: []api.Gate{gate(2, 0, 0), gate(4, 1, 1), gate(6, 0, 1)}}},
		{"a gate of one literal twice", gates(gate(6, 2, 2))},
		{"a gate of both literals of a variable", gates(gate(6, 2, 3))},
	} {
		wantCheck(t, c.name, c.c, api.OK)
	}
}

// P11.1: the last variable is one from 0 to MaxIndex.
func TestMax(t *testing.T) {
	for _, n := range []int{-1, -2, -10, math.MinInt, math.MinInt + 1, maxIndex + 1, maxIndex + 2, 1 << 32, 1<<32 + 10, 1 << 62, math.MaxInt - 1, math.MaxInt} {
		wantCheck(t, "Max alone", api.Circuit{Max: n}, api.ErrRange)
		wantCheck(t, "some of that Max", but(func(c *api.Circuit) { c.Max = n }), api.ErrRange)
	}
	for _, n := range []int{0, 1, 2, 2000, maxNodes, maxNodes + 1, maxIndex - 1, maxIndex} {
		wantCheck(t, "Max alone", api.Circuit{Max: n}, api.OK)
		wantCheck(t, "its last literal", api.Circuit{Max: n, Outs: nums(2*n + 1)}, noneUnless(n == 0))
		wantCheck(t, "one more", api.Circuit{Max: n, Outs: nums(2*n + 2)}, api.ErrRange)
		if n > 0 {
			wantCheck(t, "of the last one", api.Circuit{Max: n, Inputs: nums(2 * n), Outs: nums(2*n + 1)}, api.OK)
			wantCheck(t, "the last one made of the first one", api.Circuit{Max: n, Gates: []api.Gate{gate(2*n, 2*n-2, 1)}}, noneUnless(n == 1))
		}
		wantCheck(t, "an input that is one more", api.Circuit{Max: n, Inputs: nums(2*n + 2)}, api.ErrRange)
		wantCheck(t, "a gate that is one more", api.Circuit{Max: n, Gates: []api.Gate{gate(2*n+2, 0, 0)}}, api.ErrRange)
		wantCheck(t, "a latch that is one more", api.Circuit{Max: n, Latches: []api.Latch{latch(2*n+2, 0, 0)}}, api.ErrRange)
	}
	for n := range 9 {
		wantCheck(t, "a lesser Max", but(func(c *api.Circuit) { c.Max = n }), api.ErrRange)
	}
	wantCheck(t, "the least Max", but(func(c *api.Circuit) { c.Max = 9 }), api.OK)
	wantCheck(t, "no variable but 0, and an input", api.Circuit{Inputs: nums(0)}, api.ErrRange)
}

// noneUnless is no error, if it is so.
func noneUnless(so bool) api.Errno {
	if so {
		return api.OK
	}
	return api.ErrNone
}

// P11.1: the Lit of an input, of a latch and of a gate is the literal of a variable from 1 to Max, not an inverse's.
func TestOwnLits(t *testing.T) {
	places := []func(c *api.Circuit, l int){
		func(c *api.Circuit, l int) { c.Inputs[0] = l },
		func(c *api.Circuit, l int) { c.Inputs[1] = l },
		func(c *api.Circuit, l int) { c.Inputs = append(c.Inputs, l) },
		func(c *api.Circuit, l int) { c.Latches[0].Lit = l },
		func(c *api.Circuit, l int) { c.Latches[2].Lit = l },
		func(c *api.Circuit, l int) { c.Latches = append(c.Latches, latch(l, 0, 0)) },
		func(c *api.Circuit, l int) { c.Latches = append(c.Latches, latch(l, 2, l)) },
		func(c *api.Circuit, l int) { c.Gates[0].Lit = l },
		func(c *api.Circuit, l int) { c.Gates[2].Lit = l },
		func(c *api.Circuit, l int) { c.Gates = append(c.Gates, gate(l, 2, 3)) },
	}
	wrong := append(nums(0, 1, 3, 5, 13, 19, 21, 22, 23, 24, 100, 2*maxIndex, 2*maxIndex+1), noLits...)
	for k, put := range places {
		for _, l := range wrong {
			if got := circ.Check(but(func(c *api.Circuit) { put(c, l) })); got != api.ErrRange {
				t.Errorf("Check of %d at the place %d is %d", l, k, got)
			}
		}
	}
	for _, l := range nums(12, 20) {
		for _, k := range nums(2, 5, 6, 9) { // another one of a variable that is of none
			wantCheck(t, "one more", but(func(c *api.Circuit) { places[k](c, l) }), api.OK)
		}
	}
	for l := range 4 {
		should := api.ErrRange
		if l == 2 {
			should = api.OK
		}
		wantCheck(t, "an input alone", api.Circuit{Max: 1, Inputs: nums(l)}, should)
		wantCheck(t, "a latch alone", api.Circuit{Max: 1, Latches: []api.Latch{latch(l, 0, 0)}}, should)
		wantCheck(t, "a gate alone", api.Circuit{Max: 1, Gates: []api.Gate{gate(l, 0, 0)}}, should)
	}
}

// uses are the places where a literal is used.
var uses = []func(c *api.Circuit, l int){
	func(c *api.Circuit, l int) { c.Latches[0].Next = l },
	func(c *api.Circuit, l int) { c.Latches[1].Next = l },
	func(c *api.Circuit, l int) { c.Latches[2].Next = l },
	func(c *api.Circuit, l int) { c.Gates[0].A = l },
	func(c *api.Circuit, l int) { c.Gates[0].B = l },
	func(c *api.Circuit, l int) { c.Gates[2].A = l },
	func(c *api.Circuit, l int) { c.Gates[2].B = l },
	func(c *api.Circuit, l int) { c.Outs[0] = l },
	func(c *api.Circuit, l int) { c.Outs[1] = l },
	func(c *api.Circuit, l int) { c.Outs = append(c.Outs, l) },
	func(c *api.Circuit, l int) { c.Bads[0] = l },
	func(c *api.Circuit, l int) { c.Bads[1] = l },
	func(c *api.Circuit, l int) { c.Bads = append(c.Bads, l) },
	func(c *api.Circuit, l int) { c.Cons[0] = l },
	func(c *api.Circuit, l int) { c.Cons[1] = l },
	func(c *api.Circuit, l int) { c.Cons = append(c.Cons, l) },
}

// P11.1: what is used is a literal of a variable from 0 to Max, that is neither of none, nor any but 0 if it is of none.
func TestUses(t *testing.T) {
	for k, put := range uses {
		for _, l := range append(nums(22, 23, 24, 100, 2*maxIndex, 2*maxIndex+1), noLits...) {
			if got := circ.Check(but(func(c *api.Circuit) { put(c, l) })); got != api.ErrRange {
				t.Errorf("Check of %d at the place %d is %d", l, k, got)
			}
		}
		for _, l := range nums(12, 13, 20, 21) {
			if got := circ.Check(but(func(c *api.Circuit) { put(c, l) })); got != api.ErrNone {
				t.Errorf("Check of %d, which is of none, at the place %d is %d", l, k, got)
			}
		}
		for _, l := range nums(0, 1, 2, 3, 4, 5, 8, 9, 10, 11, 18, 19) {
			if got := circ.Check(but(func(c *api.Circuit) { put(c, l) })); got != api.OK {
				t.Errorf("Check of %d at the place %d is %d", l, k, got)
			}
		}
		// the last literals, once they are of one
		for _, l := range nums(20, 21) {
			for _, own := range []func(c *api.Circuit){
				func(c *api.Circuit) { c.Inputs = append(c.Inputs, 20) },
				func(c *api.Circuit) { c.Latches = append(c.Latches, latch(20, 20, 20)) },
				func(c *api.Circuit) { c.Gates = append(c.Gates, gate(20, 2, 2)) },
			} {
				if got := circ.Check(but(func(c *api.Circuit) { put(c, l); own(c) })); got != api.OK {
					t.Errorf("Check of %d at the place %d is %d", l, k, got)
				}
			}
		}
		// once what is used is of none any more
		taken := but(func(c *api.Circuit) { put(c, 11); c.Inputs = c.Inputs[:1] })
		if got := circ.Check(taken); got != api.ErrNone {
			t.Errorf("Check of what was taken away at the place %d is %d", k, got)
		}
	}
	wantCheck(t, "no variables", api.Circuit{Outs: nums(2)}, api.ErrRange)
	wantCheck(t, "a variable", api.Circuit{Max: 1, Outs: nums(2)}, api.ErrNone)
	wantCheck(t, "a variable's inverse", api.Circuit{Max: 1, Bads: nums(3)}, api.ErrNone)
}

// P11.1: a reset is 0, 1, or the latch's Lit.
func TestResets(t *testing.T) {
	for k, x := range some().Latches {
		for r := -3; r < 24; r++ {
			should := api.ErrRange
			if r == 0 || r == 1 || r == x.Lit {
				should = api.OK
			}
			wantCheck(t, "a reset", but(func(c *api.Circuit) { c.Latches[k].Reset = r }), should)
		}
		for _, r := range noLits {
			wantCheck(t, "a reset that is none", but(func(c *api.Circuit) { c.Latches[k].Reset = r }), api.ErrRange)
		}
		wantCheck(t, "the inverse", but(func(c *api.Circuit) { c.Latches[k].Reset = x.Lit + 1 }), api.ErrRange)
	}
	wantCheck(t, "the next one's", api.Circuit{Max: 2, Latches: []api.Latch{latch(2, 2, 4), latch(4, 2, 4)}}, api.ErrRange)
	wantCheck(t, "its Next", api.Circuit{Max: 2, Inputs: nums(4), Latches: []api.Latch{latch(2, 4, 4)}}, api.ErrRange)
}

// P11.1: no two of inputs, latches and gates have one Lit.
func TestTwice(t *testing.T) {
	own := []func(c *api.Circuit, l int){
		func(c *api.Circuit, l int) { c.Inputs = append(c.Inputs, l) },
		func(c *api.Circuit, l int) { c.Inputs = slices.Insert(c.Inputs, 0, l) },
		func(c *api.Circuit, l int) { c.Latches = append(c.Latches, latch(l, 0, 0)) },
		func(c *api.Circuit, l int) { c.Latches = slices.Insert(c.Latches, 0, latch(l, 0, l)) },
		func(c *api.Circuit, l int) { c.Gates = append(c.Gates, gate(l, 0, 0)) },
		func(c *api.Circuit, l int) { c.Gates = slices.Insert(c.Gates, 0, gate(l, 0, 0)) },
	}
	for k, put := range own {
		for l := 2; l <= 20; l += 2 {
			should := api.ErrTwice
			if l == 12 || l == 20 {
				should = api.OK
			}
			if got := circ.Check(but(func(c *api.Circuit) { put(c, l) })); got != should {
				t.Errorf("Check of %d in one more, at the place %d, is %d", l, k, got)
			}
			if got := circ.Check(but(func(c *api.Circuit) { put(c, l); own[(k+3)%6](c, l) })); got != api.ErrTwice {
				t.Errorf("Check of %d in two more, at the place %d, is %d", l, k, got)
			}
		}
	}
	wantCheck(t, "an input twice", api.Circuit{Max: 1, Inputs: nums(2, 2)}, api.ErrTwice)
	wantCheck(t, "a latch twice", api.Circuit{Max: 1, Latches: []api.Latch{latch(2, 2, 0), latch(2, 2, 0)}}, api.ErrTwice)
	wantCheck(t, "a gate twice", api.Circuit{Max: 1, Gates: []api.Gate{gate(2, 1, 1), gate(2, 1, 1)}}, api.ErrTwice)
	wantCheck(t, "a gate that is an input", gates(gate(2, 4, 4)), api.ErrTwice)
}

// P11.1: a gate hangs on itself by one of its two, in one step or in several; a latch may.
func TestLoops(t *testing.T) {
	for _, c := range []struct {
		name string
		l    []api.Gate
		want api.Errno
	}{
		{"none", nil, api.OK},
		{"by A", []api.Gate{gate(6, 6, 2)}, api.ErrLoop},
		{"by B", []api.Gate{gate(6, 2, 6)}, api.ErrLoop},
		{"by A's inverse", []api.Gate{gate(6, 7, 2)}, api.ErrLoop},
		{"by B's inverse", []api.Gate{gate(6, 2, 7)}, api.ErrLoop},
		{"by both", []api.Gate{gate(6, 6, 7)}, api.ErrLoop},
		{"with 0", []api.Gate{gate(6, 0, 6)}, api.ErrLoop},
		{"with 1", []api.Gate{gate(6, 6, 1)}, api.ErrLoop},
		{"in two steps by A", []api.Gate{gate(6, 8, 2), gate(8, 6, 2)}, api.ErrLoop},
		{"in two steps by B", []api.Gate{gate(6, 2, 8), gate(8, 2, 6)}, api.ErrLoop},
		{"in two steps by A and B", []api.Gate{gate(6, 9, 2), gate(8, 2, 7)}, api.ErrLoop},
		{"in two steps by B and A", []api.Gate{gate(8, 2, 7), gate(6, 9, 2)}, api.ErrLoop},
		{"not in two steps", []api.Gate{gate(6, 9, 2), gate(8, 2, 5)}, api.OK},
		{"in three steps", []api.Gate{gate(6, 8, 2), gate(8, 2, 11), gate(10, 7, 4)}, api.ErrLoop},
		{"in three steps, of both", []api.Gate{gate(6, 8, 10), gate(8, 10, 4), gate(10, 6, 2)}, api.ErrLoop},
		{"a way that parts and joins", []api.Gate{gate(6, 8, 10), gate(8, 12, 4), gate(10, 12, 2), gate(12, 2, 4)}, api.OK},
		{"one behind one that does", []api.Gate{gate(6, 2, 4), gate(8, 6, 9), gate(10, 8, 2)}, api.ErrLoop},
		{"one ahead of one that does", []api.Gate{gate(10, 8, 2), gate(8, 9, 6), gate(6, 2, 4)}, api.ErrLoop},
		{"two apart", []api.Gate{gate(6, 8, 4), gate(8, 6, 2), gate(10, 2, 12), gate(12, 10, 10)}, api.ErrLoop},
		{"the last one alone", []api.Gate{gate(6, 2, 4), gate(8, 6, 6), gate(10, 8, 10)}, api.ErrLoop},
	} {
		wantCheck(t, c.name, gates(c.l...), c.want)
	}
	for _, l := range [][]api.Latch{
		{latch(2, 2, 0)}, {latch(2, 3, 2)}, {latch(2, 4, 0), latch(4, 2, 1)}, {latch(2, 5, 0), latch(4, 6, 1), latch(6, 2, 6)},
	} {
		wantCheck(t, "latches", api.Circuit{Max: 3, Latches: l}, api.OK)
	}
	round := api.Circuit{Max: 3, Latches: []api.Latch{latch(2, 6, 0), latch(4, 7, 4)}, Gates: []api.Gate{gate(6, 2, 5)}}
	wantCheck(t, "a gate of a latch that it leads to", round, api.OK)
	wantOrder(t, round, 0)
}

// P11.1: of what is wrong the first one is told: numbers, then what is there twice, then what is of none, then what hangs
// on itself.
func TestFirst(t *testing.T) {
	ways := []struct {
		e   api.Errno
		bad []func(c *api.Circuit)
	}{
		{api.ErrRange, []func(c *api.Circuit){
			func(c *api.Circuit) { c.Max = maxIndex + 1 },
			func(c *api.Circuit) { c.Max = 8 },
			func(c *api.Circuit) { c.Inputs = append(c.Inputs, 21) },
			func(c *api.Circuit) { c.Latches[2].Reset = 4 },
			func(c *api.Circuit) { c.Latches[2].Next = -1 },
			func(c *api.Circuit) { c.Gates[1].A = 22 },
			func(c *api.Circuit) { c.Gates[1].B = -2 },
			func(c *api.Circuit) { c.Outs = append(c.Outs, 22) },
			func(c *api.Circuit) { c.Bads = append(c.Bads, 22) },
			func(c *api.Circuit) { c.Cons = append(c.Cons, 22) },
		}},
		{api.ErrTwice, []func(c *api.Circuit){
			func(c *api.Circuit) { c.Inputs = append(c.Inputs, 8) },
			func(c *api.Circuit) { c.Latches = append(c.Latches, latch(14, 0, 0)) },
			func(c *api.Circuit) { c.Gates = append(c.Gates, gate(6, 1, 2)) },
		}},
		{api.ErrNone, []func(c *api.Circuit){
			func(c *api.Circuit) { c.Latches[0].Next = 12 },
			func(c *api.Circuit) { c.Gates[0].B = 13 },
			func(c *api.Circuit) { c.Outs[0] = 20 },
			func(c *api.Circuit) { c.Bads[0] = 21 },
			func(c *api.Circuit) { c.Cons[0] = 12 },
		}},
		{api.ErrLoop, []func(c *api.Circuit){
			func(c *api.Circuit) { c.Gates[2].A = 16 },
			func(c *api.Circuit) { c.Gates[2].B = 17 },
			func(c *api.Circuit) { c.Gates[0].A = 16 },
		}},
	}
	for i, first := range ways {
		for _, bad := range first.bad {
			wantCheck(t, "one thing", but(bad), first.e)
			for k, second := range ways[i:] {
				for _, worse := range second.bad {
					if k == 0 {
						continue // of one kind one may mend the other
					}
					wantCheck(t, "two things", but(func(c *api.Circuit) { bad(c); worse(c) }), first.e)
					last := ways[3].bad[0]
					wantCheck(t, "three things", but(func(c *api.Circuit) { last(c); bad(c); worse(c) }), first.e)
				}
			}
		}
	}
}

// P11.1: Symbols and Comment play no part.
func TestNoPart(t *testing.T) {
	for _, s := range [][]api.Symbol{
		nil, {{}}, {{Kind: 'z', Index: -5, Name: "\x00\n"}}, {{Kind: 'i', Index: 99, Name: ""}, {Kind: 'i', Index: 99, Name: ""}},
		{{Kind: 'l', Index: math.MaxInt, Name: strings.Repeat("n", 100)}},
	} {
		for _, text := range []string{"", "c", "\x00\xff", strings.Repeat("text\n", 1000)} {
			dress := func(c *api.Circuit) { c.Symbols, c.Comment = s, text }
			wantCheck(t, "good", but(dress), api.OK)
			wantCheck(t, "not good", but(func(c *api.Circuit) { dress(c); c.Gates[2].A = 16 }), api.ErrLoop)
			wantOrder(t, but(dress), 1, 0, 2)
			n, to := circ.Net(but(dress))
			should, places := circ.Net(some())
			wantList(t, "Net", n, should)
			wantList(t, "where", to, places)
		}
	}
}

// P11.2: each time the first gate that can be told.
func TestOrder(t *testing.T) {
	wantOrder(t, api.Circuit{})
	wantOrder(t, api.Circuit{Max: 3, Inputs: nums(2)})
	wantOrder(t, some(), 1, 0, 2)
	for _, c := range []struct {
		l    []api.Gate
		want []int
	}{
		{[]api.Gate{gate(6, 2, 4)}, nums(0)},
		// in order, and the wrong way round
		{[]api.Gate{gate(6, 2, 4), gate(8, 6, 6), gate(10, 9, 2), gate(12, 4, 11)}, nums(0, 1, 2, 3)},
		{[]api.Gate{gate(12, 4, 11), gate(10, 9, 2), gate(8, 6, 6), gate(6, 2, 4)}, nums(3, 2, 1, 0)},
		// what the numbers are plays no part
		{[]api.Gate{gate(12, 2, 4), gate(10, 12, 12), gate(8, 11, 2), gate(6, 4, 9)}, nums(0, 1, 2, 3)},
		{[]api.Gate{gate(60, 2, 4), gate(6, 2, 4), gate(30, 0, 1), gate(28, 3, 3)}, nums(0, 1, 2, 3)},
		// by A alone, by B alone, by both, by one twice
		{[]api.Gate{gate(6, 8, 2), gate(8, 2, 4)}, nums(1, 0)},
		{[]api.Gate{gate(6, 2, 9), gate(8, 2, 4)}, nums(1, 0)},
		{[]api.Gate{gate(6, 8, 10), gate(8, 2, 4), gate(10, 2, 4)}, nums(1, 2, 0)},
		{[]api.Gate{gate(6, 10, 8), gate(8, 2, 4), gate(10, 2, 4)}, nums(1, 2, 0)},
		{[]api.Gate{gate(6, 8, 9), gate(8, 2, 4), gate(10, 2, 4)}, nums(1, 0, 2)},
		// one that can be told again goes ahead of all that come
		{[]api.Gate{gate(6, 8, 2), gate(8, 2, 4), gate(10, 2, 4), gate(12, 2, 4)}, nums(1, 0, 2, 3)},
		{[]api.Gate{gate(6, 10, 2), gate(8, 2, 4), gate(10, 2, 4), gate(12, 2, 4)}, nums(1, 2, 0, 3)},
		{[]api.Gate{gate(6, 12, 2), gate(8, 2, 4), gate(10, 12, 4), gate(12, 2, 4), gate(14, 2, 2)}, nums(1, 3, 0, 2, 4)},
		// those that wait for one come from the first one on, whatever they hang on beside it
		{[]api.Gate{gate(6, 12, 2), gate(8, 2, 12), gate(10, 12, 12), gate(12, 2, 4)}, nums(3, 0, 1, 2)},
		{[]api.Gate{gate(6, 8, 12), gate(8, 10, 12), gate(10, 12, 2), gate(12, 2, 4)}, nums(3, 2, 1, 0)},
		{[]api.Gate{gate(6, 12, 8), gate(8, 12, 10), gate(10, 2, 12), gate(12, 2, 4)}, nums(3, 2, 1, 0)},
		{[]api.Gate{gate(6, 14, 12), gate(8, 14, 2), gate(10, 6, 12), gate(12, 2, 4), gate(14, 4, 4), gate(16, 2, 2)}, nums(3, 4, 0, 1, 2, 5)},
		{[]api.Gate{gate(6, 16, 14), gate(8, 6, 2), gate(10, 14, 2), gate(12, 8, 4), gate(14, 16, 4), gate(16, 2, 2), gate(18, 12, 12)}, nums(5, 4, 0, 1, 2, 3, 6)},
	} {
		wantOrder(t, gates(c.l...), c.want...)
	}
	// latches hold nothing up
	wantOrder(t, api.Circuit{Max: 4, Latches: []api.Latch{latch(2, 8, 0), latch(4, 6, 1)}, Gates: []api.Gate{gate(8, 4, 6), gate(6, 2, 4)}}, 1, 0)
}

// P11.2: a node of each input, then of each latch, then of each gate, and where each variable is.
func TestNet(t *testing.T) {
	for _, c := range []struct {
		name string
		c    api.Circuit
		n    []api.Node
		want []int
	}{
		{"of nothing", api.Circuit{}, nil, nums(0)},
		{"asked of nothing", api.Circuit{Outs: nums(0, 1)}, nil, nums(0)},
		{"variables that are of none", api.Circuit{Max: 3}, nil, nums(0, -1, -1, -1)},
		{"one latch", api.Circuit{Max: 1, Latches: []api.Latch{latch(2, 3, 0)}, Bads: nums(2)}, []api.Node{in()}, nums(0, 2)},
		{"one input, the last one", api.Circuit{Max: 3, Inputs: nums(6)}, []api.Node{in()}, nums(0, -1, -1, 2)},
		{"inputs the wrong way round", api.Circuit{Max: 3, Inputs: nums(6, 4, 2)}, []api.Node{in(), in(), in()}, nums(0, 6, 4, 2)},
		{"latches ahead of inputs", api.Circuit{Max: 4, Inputs: nums(8, 2), Latches: []api.Latch{latch(6, 9, 1), latch(4, 2, 4)}},
			[]api.Node{in(), in(), in(), in()}, nums(0, 4, 8, 6, 2)},
		{"gates ahead of inputs", api.Circuit{Max: 4, Inputs: nums(8), Gates: []api.Gate{gate(2, 9, 1), gate(4, 3, 2)}},
			[]api.Node{in(), and(3, 1), and(5, 4)}, nums(0, 4, 6, -1, 2)},
		{"gates alone", api.Circuit{Max: 2, Gates: []api.Gate{gate(2, 0, 1), gate(4, 3, 1)}}, []api.Node{and(0, 1), and(3, 1)}, nums(0, 2, 4)},
		{"gates of 0 and 1", gates(gate(6, 0, 2), gate(8, 1, 5), gate(10, 0, 0), gate(12, 1, 1)),
			[]api.Node{in(), in(), and(0, 2), and(1, 5), and(0, 0), and(1, 1)}, nil},
		{"a gate's two as they stand", gates(gate(6, 4, 2), gate(8, 2, 4), gate(10, 3, 2), gate(12, 9, 9), gate(14, 12, 7)),
			[]api.Node{in(), in(), and(4, 2), and(2, 4), and(3, 2), and(9, 9), and(12, 7)}, nil},
		{"gates the wrong way round", gates(gate(20, 3, 11), gate(10, 9, 5), gate(8, 2, 4)),
			[]api.Node{in(), in(), and(2, 4), and(7, 5), and(3, 9)}, append(nums(0, 2, 4, -1, 6, 8, -1, -1, -1, -1, 10), none(20)...)},
		{"some", some(), []api.Node{in(), in(), in(), in(), in(), and(7, 9), and(13, 2), and(15, 15)},
			nums(0, 2, 8, 12, 6, 4, -1, 14, 16, 10, -1)},
	} {
		n, to := circ.Net(c.c)
		wantList(t, "Net, "+c.name+",", n, c.n)
		if c.want != nil {
			wantList(t, "where, "+c.name+",", to, c.want)
		}
		if len(to) != c.c.Max+1 {
			t.Errorf("where, %s, is of %d", c.name, len(to))
		}
	}
	far := api.Circuit{Max: maxIndex, Inputs: nums(2 * maxIndex), Gates: []api.Gate{gate(2*maxIndex-2, 2*maxIndex+1, 1)}}
	n, to := circ.Net(far)
	wantList(t, "Net of the last variables", n, []api.Node{in(), and(3, 1)})
	if len(to) != maxIndex+1 || to[0] != 0 || to[maxIndex] != 2 || to[maxIndex-1] != 4 {
		t.Fatal("where is of", len(to))
	}
	for v, l := range to[1 : maxIndex-1] {
		if l != -1 {
			t.Fatalf("the variable %d is %d", v+1, l)
		}
	}
}

// none is that so many variables are of none.
func none(many int) []int { return slices.Repeat(nums(-1), many) }

// others are changes of one field each.
var others = []func(c *api.Circuit){
	func(c *api.Circuit) { c.Max++ },
	func(c *api.Circuit) { c.Inputs[1] = 6 },
	func(c *api.Circuit) { c.Inputs = c.Inputs[:1] },
	func(c *api.Circuit) { c.Inputs = append(c.Inputs, 0) },
	func(c *api.Circuit) { c.Inputs = nil },
	func(c *api.Circuit) { c.Inputs[0], c.Inputs[1] = 10, 2 },
	func(c *api.Circuit) { c.Latches[2].Lit = 20 },
	func(c *api.Circuit) { c.Latches[0].Next++ },
	func(c *api.Circuit) { c.Latches[1].Reset = 1 },
	func(c *api.Circuit) { c.Latches = c.Latches[:2] },
	func(c *api.Circuit) { c.Latches = append(c.Latches, api.Latch{}) },
	func(c *api.Circuit) { c.Latches = nil },
	func(c *api.Circuit) { c.Outs[1] = 1 },
	func(c *api.Circuit) { c.Outs = c.Outs[:1] },
	func(c *api.Circuit) { c.Outs = append(c.Outs, 0) },
	func(c *api.Circuit) { c.Outs = nil },
	func(c *api.Circuit) { c.Bads[0] = 16 },
	func(c *api.Circuit) { c.Bads = c.Bads[:1] },
	func(c *api.Circuit) { c.Bads = append(c.Bads, 0) },
	func(c *api.Circuit) { c.Bads = nil },
	func(c *api.Circuit) { c.Cons[1] = 0 },
	func(c *api.Circuit) { c.Cons = c.Cons[:1] },
	func(c *api.Circuit) { c.Cons = append(c.Cons, 0) },
	func(c *api.Circuit) { c.Cons = nil },
	func(c *api.Circuit) { c.Outs, c.Bads = c.Bads, c.Outs },
	func(c *api.Circuit) { c.Bads, c.Cons = c.Cons, c.Bads },
	func(c *api.Circuit) { c.Gates[0].Lit = 12 },
	func(c *api.Circuit) { c.Gates[1].A = 8 },
	func(c *api.Circuit) { c.Gates[2].B = 14 },
	func(c *api.Circuit) { c.Gates[0].A, c.Gates[0].B = 2, 7 },
	func(c *api.Circuit) { c.Gates[0], c.Gates[2] = c.Gates[2], c.Gates[0] },
	func(c *api.Circuit) { c.Gates = c.Gates[:2] },
	func(c *api.Circuit) { c.Gates = append(c.Gates, api.Gate{}) },
	func(c *api.Circuit) { c.Gates = nil },
	func(c *api.Circuit) { c.Symbols[0].Kind = 'l' },
	func(c *api.Circuit) { c.Symbols[1].Index = 1 },
	func(c *api.Circuit) { c.Symbols[1].Name = "y" },
	func(c *api.Circuit) { c.Symbols = c.Symbols[:1] },
	func(c *api.Circuit) { c.Symbols = append(c.Symbols, api.Symbol{}) },
	func(c *api.Circuit) { c.Symbols = nil },
	func(c *api.Circuit) { c.Comment = "" },
	func(c *api.Circuit) { c.Comment = "some" },
	func(c *api.Circuit) { c.Comment = "some\nx" },
}

// odd are circuits that are not good.
func odd() []api.Circuit {
	l := []api.Circuit{
		{Max: -1}, {Max: math.MinInt}, {Max: math.MaxInt}, {Max: maxIndex + 1},
		{Inputs: nums(2)}, {Max: 1, Inputs: nums(2, 2)}, {Max: 4, Outs: nums(8)},
		{Max: -5, Inputs: noLits, Outs: noLits, Bads: noLits, Cons: noLits, Symbols: []api.Symbol{{Kind: 0, Index: -1, Name: "\xff"}}},
		gates(gate(6, 6, 6)), gates(gate(6, 8, 2), gate(8, 3, 7)), gates(gate(6, 2, 4), gate(6, 2, 4)), gates(gate(1, 2, 4)),
		{Latches: []api.Latch{{}, {}}, Gates: []api.Gate{{}, {}}},
	}
	for _, x := range noLits {
		l = append(l, gates(gate(x, 2, 4), gate(6, x, 8), gate(8, 6, x)), api.Circuit{Max: 2, Latches: []api.Latch{latch(x, x, x), latch(2, x, 0)}})
		for _, put := range uses {
			l = append(l, but(func(c *api.Circuit) { put(c, x) }))
		}
	}
	return l
}

// P11.3: whether all fields are the same, nil as empty; of circuits that are not good, too.
func TestSame(t *testing.T) {
	wantSame(t, api.Circuit{}, api.Circuit{}, true)
	wantSame(t, some(), some(), true)
	for _, change := range others {
		wantSame(t, some(), but(change), false)
		wantSame(t, but(change), some(), false)
		wantSame(t, but(change), but(change), true)
	}
	empty := api.Circuit{
		Inputs: nums(), Latches: []api.Latch{}, Outs: nums(), Bads: nums()[:0], Cons: nums(7)[:0],
		Gates: []api.Gate{}, Symbols: []api.Symbol{},
	}
	wantSame(t, api.Circuit{}, empty, true)
	wantSame(t, empty, api.Circuit{}, true)
	wantSame(t, empty, empty, true)
	for i, a := range odd() {
		for k, b := range odd() {
			if got := circ.Same(a, b); got != (i == k) {
				t.Fatalf("Same of %v and %v is %v", a, b, got)
			}
		}
	}
}

// wantSame holds whether two circuits are the same against whether they should be.
func wantSame(t *testing.T, a, b api.Circuit, should bool) {
	t.Helper()
	if got := circ.Same(a, b); got != should {
		t.Errorf("Same of %v and %v is %v", a, b, got)
	}
}

// roomy is a list with spare room behind it that is marked.
func roomy[T any](mark T, l []T) []T {
	room := append(slices.Clip(slices.Clone(l)), mark, mark, mark)
	return room[:len(l)]
}

// allRoomy gives a circuit lists with spare room.
func allRoomy(c api.Circuit) api.Circuit {
	c.Inputs, c.Outs, c.Bads, c.Cons = roomy(77, c.Inputs), roomy(77, c.Outs), roomy(77, c.Bads), roomy(77, c.Cons)
	c.Latches, c.Gates = roomy(latch(77, 77, 77), c.Latches), roomy(gate(77, 77, 77), c.Gates)
	c.Symbols = roomy(api.Symbol{Name: "room"}, c.Symbols)
	return c
}

// withRoom is a circuit with the spare room of allRoomy as a part of its lists.
func withRoom(c api.Circuit) api.Circuit {
	c.Inputs, c.Outs, c.Bads, c.Cons = c.Inputs[:len(c.Inputs)+3], c.Outs[:len(c.Outs)+3], c.Bads[:len(c.Bads)+3], c.Cons[:len(c.Cons)+3]
	c.Latches, c.Gates, c.Symbols = c.Latches[:len(c.Latches)+3], c.Gates[:len(c.Gates)+3], c.Symbols[:len(c.Symbols)+3]
	return c
}

// spoil overwrites a list and its spare room.
func spoil[T any](l []T, with T) {
	for i := range l[:cap(l)] {
		l[:cap(l)][i] = with
	}
}

// spoilAll overwrites all lists of a circuit.
func spoilAll(c api.Circuit) {
	for _, l := range [][]int{c.Inputs, c.Outs, c.Bads, c.Cons} {
		spoil(l, 99)
	}
	spoil(c.Latches, latch(99, 99, 99))
	spoil(c.Gates, gate(99, 99, 99))
	spoil(c.Symbols, api.Symbol{Name: "spoiled"})
}

// wantEqual holds a circuit against what it should be, field by field, without Same.
func wantEqual(t *testing.T, what string, got, should api.Circuit) {
	t.Helper()
	wantList(t, what+"'s Max", nums(got.Max), nums(should.Max))
	wantList(t, what+"'s Inputs", got.Inputs, should.Inputs)
	wantList(t, what+"'s Latches", got.Latches, should.Latches)
	wantList(t, what+"'s Outs", got.Outs, should.Outs)
	wantList(t, what+"'s Bads", got.Bads, should.Bads)
	wantList(t, what+"'s Cons", got.Cons, should.Cons)
	wantList(t, what+"'s Gates", got.Gates, should.Gates)
	wantList(t, what+"'s Symbols", got.Symbols, should.Symbols)
	wantList(t, what+"'s Comment", []string{got.Comment}, []string{should.Comment})
}

// P11.3: the same in memory of its own, whatever is written to the one or to the other one afterwards.
func TestClone(t *testing.T) {
	for _, make := range []func() api.Circuit{
		some,
		func() api.Circuit { return api.Circuit{} },
		func() api.Circuit {
			return api.Circuit{Max: -7, Inputs: nums(-1, 5, 5), Gates: []api.Gate{gate(0, -1, -1)}, Comment: "c"}
		},
		func() api.Circuit { return but(others[33]) },
	} {
		c := allRoomy(make())
		one, two := circ.Clone(c), circ.Clone(c)
		wantEqual(t, "one", one, make())
		spoilAll(two)
		wantEqual(t, "the handed in one", c, make())
		wantEqual(t, "one, the other one being spoiled,", one, make())
		wantEqual(t, "the spare room", withRoom(c), withRoom(allRoomy(make())))
		one.Inputs, one.Latches, one.Gates = append(one.Inputs, 98), append(one.Latches, latch(98, 0, 0)), append(one.Gates, gate(98, 0, 0))
		one.Outs, one.Bads, one.Cons = append(one.Outs, 98), append(one.Bads, 98), append(one.Cons, 98)
		one.Symbols = append(one.Symbols, api.Symbol{})
		wantEqual(t, "the spare room", withRoom(c), withRoom(allRoomy(make())))
		three := circ.Clone(c)
		spoilAll(c)
		wantEqual(t, "one of what is spoiled since", three, make())
	}
	for _, change := range others {
		wantEqual(t, "one", circ.Clone(but(change)), but(change))
	}
	for _, c := range odd() {
		wantEqual(t, "one", circ.Clone(c), c)
	}
}

// P11.3: no two lists of a clone share memory, even where those of the circuit do.
func TestCloneShares(t *testing.T) {
	l := nums(2, 4, 6)
	c := circ.Clone(api.Circuit{Max: 3, Inputs: l, Outs: l, Bads: l[1:], Cons: l[:2]})
	c.Inputs[0], c.Outs[1], c.Bads[0], c.Cons[0] = 10, 11, 12, 13
	wantEqual(t, "one", c, api.Circuit{Max: 3, Inputs: nums(10, 4, 6), Outs: nums(2, 11, 6), Bads: nums(12, 6), Cons: nums(13, 4)})
	wantList(t, "what was handed in", l, nums(2, 4, 6))
}

// P11.1 to P11.3: what is handed in stays as it was, its spare room, too, and what is told is memory of its own.
func TestMemory(t *testing.T) {
	for _, make := range []func() api.Circuit{some, func() api.Circuit { return but(others[33]) }, func() api.Circuit { return but(uses9) }} {
		c := allRoomy(make())
		circ.Check(c)
		order := circ.Order(c)
		n, to := circ.Net(c)
		circ.Same(c, c)
		hadOrder, hadNodes, hadTo := slices.Clone(order), slices.Clone(n), slices.Clone(to)
		spoil(circ.Order(c), 55)
		otherNodes, otherTo := circ.Net(c)
		spoil(otherNodes, and(55, 55))
		spoil(otherTo, 55)
		wantEqual(t, "the circuit", withRoom(c), withRoom(allRoomy(make())))
		spoilAll(c)
		wantList(t, "the order", order, hadOrder)
		wantList(t, "the net", n, hadNodes)
		wantList(t, "where", to, hadTo)
	}
}

// uses9 is a change by which a variable is used that is of none.
func uses9(c *api.Circuit) { c.Outs = append(c.Outs, 20) }

// Of circuits that are not good anything may be told, but without a panic.
func TestNotGood(t *testing.T) {
	for _, c := range odd() {
		circ.Order(c)
		circ.Net(c)
		circ.Same(c, some())
	}
	wantCheck(t, "a loop of very many", ring(1000), api.ErrLoop)
	circ.Order(ring(1000))
	circ.Net(ring(1000))
}

// ring is a circuit of gates that hang on one another, all around.
func ring(many int) api.Circuit {
	c := api.Circuit{Max: many}
	for v := 1; v <= many; v++ {
		c.Gates = append(c.Gates, gate(2*v, 2*(v%many)+2, 1))
	}
	return c
}

// chain is a circuit of very many gates, each on the one before it.
func chain(many int) api.Circuit {
	c := api.Circuit{Max: many + 1, Inputs: nums(2), Outs: nums(2*many + 3), Gates: make([]api.Gate, many)}
	for i := range c.Gates {
		c.Gates[i] = gate(2*i+4, 2*i+3, 1)
	}
	return c
}

// P11.1 to P11.4: very many gates, each on the one before it, in order and the wrong way round.
func TestMany(t *testing.T) {
	const many = maxNodes - 1
	c := chain(many)
	wantCheck(t, "in order", c, api.OK)
	n, to := circ.Net(c)
	if e := aig.Check(n); e != api.OK || len(n) != maxNodes || len(to) != maxNodes+1 {
		t.Fatal("Net:", e, len(n), len(to))
	}
	order := circ.Order(c)
	for i := range many {
		if order[i] != i || n[i+1] != and(2*i+3, 1) || to[i+1] != 2*(i+1) {
			t.Fatal(i, order[i], n[i+1], to[i+1])
		}
	}
	slices.Reverse(c.Gates)
	wantCheck(t, "the wrong way round", c, api.OK)
	other, where := circ.Net(c)
	order = circ.Order(c)
	for i := range many {
		if order[i] != many-1-i {
			t.Fatal(i, order[i])
		}
	}
	if !slices.Equal(other, n) || !slices.Equal(where, to) {
		t.Error("the Net is another one")
	}
	c.Gates[many-1].A = c.Gates[0].Lit
	wantCheck(t, "all around", c, api.ErrLoop)
	copied := circ.Clone(c)
	wantSame(t, copied, c, true)
	copied.Gates[many-1].B = 0
	if circ.Same(copied, c) {
		t.Error("Same of very many")
	}
}

// P11.1, P11.2: more gates than a net may have nodes, in order, the wrong way round, and all but one waiting for the last.
func TestMore(t *testing.T) {
	const many = maxNodes + 1000
	c := chain(many)
	wantCheck(t, "in order", c, api.OK)
	order := circ.Order(c)
	if len(order) != many || !slices.IsSorted(order) {
		t.Fatal("the order of", len(order))
	}
	slices.Reverse(c.Gates)
	wantCheck(t, "the wrong way round", c, api.OK)
	order = circ.Order(c)
	slices.Reverse(order)
	if len(order) != many || !slices.IsSorted(order) {
		t.Fatal("the order the wrong way round of", len(order))
	}
	last := 2*many + 2
	for i := range c.Gates {
		c.Gates[i] = gate(2*i+4, 2, last)
	}
	c.Gates[many-1] = gate(last, 2, 3)
	wantCheck(t, "waiting for the last one", c, api.OK)
	order = circ.Order(c)
	if len(order) != many || order[0] != many-1 || !slices.IsSorted(order[1:]) || order[many-1] != many-2 {
		t.Fatal("the order behind the last one of", len(order))
	}
	c.Gates[many-1].B = 4
	wantCheck(t, "waiting for one another", c, api.ErrLoop)
}

// draw is numbers that look as if drawn.
type draw uint64

// below is the next one, below n.
func (d *draw) below(n int) int {
	*d = *d*6364136223846793005 + 1442695040888963407
	return int(uint64(*d>>33) % uint64(n))
}

// someCircuit is a drawn circuit that is good: of variables in any order some are of none, and each gate's two are of
// those that came ahead; the gates then stand in any order.
func someCircuit(d *draw, many int) api.Circuit {
	c := api.Circuit{Max: many}
	known := nums(0)
	pick := func() int { return 2*known[d.below(len(known))] + d.below(2) }
	vars := shuffled(d, many)
	for _, v := range vars {
		switch kind := d.below(8); {
		case kind == 0:
			continue
		case kind < 3:
			c.Inputs = append(c.Inputs, 2*v)
		case kind < 5:
			c.Latches = append(c.Latches, latch(2*v, 0, []int{0, 1, 2 * v}[d.below(3)]))
		default:
			c.Gates = append(c.Gates, gate(2*v, pick(), pick()))
		}
		known = append(known, v)
	}
	for i := range c.Latches {
		c.Latches[i].Next = pick()
	}
	for range d.below(3) {
		c.Outs, c.Bads, c.Cons = append(c.Outs, pick()), append(c.Bads, pick()), append(c.Cons, pick())
	}
	if d.below(4) > 0 {
		had := slices.Clone(c.Gates)
		for i, k := range shuffled(d, len(had)) {
			c.Gates[i] = had[k-1]
		}
	}
	return c
}

// shuffled is the numbers from 1 on in a drawn order.
func shuffled(d *draw, many int) []int {
	var l []int
	for i := range many {
		l = slices.Insert(l, d.below(i+1), i+1)
	}
	return l
}

// lits is where each literal of a circuit is that something has, and where each is that is used.
func lits(c *api.Circuit) (own, used []*int) {
	for _, l := range [][]int{c.Outs, c.Bads, c.Cons} {
		for i := range l {
			used = append(used, &l[i])
		}
	}
	for i := range c.Inputs {
		own = append(own, &c.Inputs[i])
	}
	for i := range c.Latches {
		own, used = append(own, &c.Latches[i].Lit), append(used, &c.Latches[i].Next)
	}
	for i := range c.Gates {
		own, used = append(own, &c.Gates[i].Lit), append(used, &c.Gates[i].A, &c.Gates[i].B)
	}
	return own, used
}

// checked is what Check should tell, word by word.
func checked(c api.Circuit) api.Errno {
	own, used := lits(&c)
	isLit := func(l int) bool { return l >= 0 && l <= 2*c.Max+1 }
	owned := map[int]int{}
	for _, l := range own {
		if !isLit(*l) || *l%2 == 1 || *l == 0 {
			return api.ErrRange
		}
		owned[*l/2]++
	}
	for _, l := range used {
		if !isLit(*l) {
			return api.ErrRange
		}
	}
	for _, x := range c.Latches {
		if x.Reset != 0 && x.Reset != 1 && x.Reset != x.Lit {
			return api.ErrRange
		}
	}
	if len(owned) < len(own) {
		return api.ErrTwice
	}
	for _, l := range used {
		if *l > 1 && owned[*l/2] == 0 {
			return api.ErrNone
		}
	}
	if len(ordered(c)) < len(c.Gates) {
		return api.ErrLoop
	}
	return api.OK
}

// ordered is the order of gates, by looking at all of them each time.
func ordered(c api.Circuit) []int {
	var order []int
	open := map[int]bool{}
	for _, g := range c.Gates {
		open[g.Lit/2] = true
	}
	for range c.Gates {
		p := slices.IndexFunc(c.Gates, func(g api.Gate) bool { return open[g.Lit/2] && !open[g.A/2] && !open[g.B/2] })
		if p < 0 {
			break
		}
		order = append(order, p)
		open[c.Gates[p].Lit/2] = false
	}
	return order
}

// P11.1: Check is what the words say one by one, of drawn circuits with some of their numbers changed.
func TestCheckTwin(t *testing.T) {
	seen := map[api.Errno]int{}
	for seed := range 20000 {
		d := draw(seed)
		c := someCircuit(&d, d.below(9))
		own, used := lits(&c)
		for range d.below(4) {
			switch {
			case d.below(3) == 0 && len(own) > 0:
				*own[d.below(len(own))] = 2 * d.below(c.Max+2)
			case len(used) > 0:
				*used[d.below(len(used))] = d.below(2*c.Max + 3)
			}
		}
		for i := range c.Latches { // as it was, its own one
			if c.Latches[i].Reset > 1 && d.below(8) > 0 {
				c.Latches[i].Reset = c.Latches[i].Lit
			}
		}
		should := checked(c)
		seen[should]++
		if got := circ.Check(c); got != should {
			t.Fatalf("seed %d: Check of %v is %d, not %d", seed, c, got, should)
		}
		if again := circ.Check(c); again != should {
			t.Fatal("the same call tells", again)
		}
	}
	for _, e := range []api.Errno{api.OK, api.ErrRange, api.ErrTwice, api.ErrNone, api.ErrLoop} {
		if seen[e] < 500 {
			t.Errorf("%d was drawn %d times", e, seen[e])
		}
	}
}

// isOne tells whether a circuit's literal is One, by what inputs and latches are, down to them.
func isOne(c api.Circuit, vals map[int]bool, l int) bool {
	if l%2 == 1 {
		return !isOne(c, vals, l-1)
	}
	p := slices.IndexFunc(c.Gates, func(g api.Gate) bool { return g.Lit == l })
	if p < 0 {
		return vals[l]
	}
	return isOne(c, vals, c.Gates[p].A) && isOne(c, vals, c.Gates[p].B)
}

// P11.2, P11.4: of drawn circuits the order is that of looking at all gates each time; the net is good, its inputs are
// inputs and latches, its gates are the circuit's, one for one, and its literals are what the circuit's are.
func TestNetTwin(t *testing.T) {
	for seed := range 2000 {
		d := draw(seed + 77)
		c := someCircuit(&d, d.below(30))
		order := circ.Order(c)
		wantList(t, "Order", order, ordered(c))
		n, to := circ.Net(c)
		if circ.Check(c) != api.OK || aig.Check(n) != api.OK {
			t.Fatalf("seed %d: %v is not good, or %v is not", seed, c, n)
		}
		wantNodes(t, c, order, n, to)
		vals := map[int]bool{}
		var ins []bool
		own, _ := lits(&c)
		for _, l := range own[:len(c.Inputs)+len(c.Latches)] {
			vals[*l] = d.below(2) == 1
			ins = append(ins, vals[*l])
		}
		told := sim.Eval(n, ins)
		for v, l := range to {
			if l >= 0 && sim.Lit(told, l) != isOne(c, vals, 2*v) {
				t.Errorf("the variable %d is another one", v)
			}
		}
		if t.Failed() {
			t.Fatalf("seed %d: %v", seed, c)
		}
	}
}

// wantNodes holds a net, node by node, against a circuit.
func wantNodes(t *testing.T, c api.Circuit, order []int, n []api.Node, to []int) {
	t.Helper()
	should := none(c.Max + 1)
	should[0] = 0
	at := 0
	place := func(l int) {
		at++
		should[l/2] = 2 * at
	}
	for _, l := range c.Inputs {
		place(l)
	}
	for _, x := range c.Latches {
		place(x.Lit)
	}
	nodes := slices.Repeat([]api.Node{in()}, at)
	for _, p := range order {
		g := c.Gates[p]
		place(g.Lit)
		nodes = append(nodes, and(should[lit.Var(g.A)]+g.A%2, should[lit.Var(g.B)]+g.B%2))
	}
	wantList(t, "Net", n, nodes)
	wantList(t, "where", to, should)
}

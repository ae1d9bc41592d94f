package cone_test

import (
	"math"
	"slices"
	"testing"

	"latchet/aig"
	"latchet/api"
	"latchet/cone"
)

// Written out by itself, so that a limit that is one off is seen.
const maxNodes = 1048576

// noLits are numbers that are no literal of any variable.
var noLits = []int{-1, -2, -3, -4, -7, math.MinInt, math.MinInt + 1, 2*(1<<24) + 2, 2*(1<<24) + 3, 1 << 32, 1<<32 + 2, 1 << 62, math.MaxInt - 1, math.MaxInt}

// in is an input.
func in() api.Node { return api.Node{A: -1} }

// gate is a gate of two literals.
func gate(a, b int) api.Node { return api.Node{A: a, B: b} }

// net is a list of nodes.
func net(l ...api.Node) []api.Node { return l }

// lits is a list of literals, and vars one of variables.
func lits(l ...int) []int { return l }

func vars(l ...int) []int { return l }

// want holds what was told against what it should be.
func want(t *testing.T, what string, got, should int) {
	t.Helper()
	if got != should {
		t.Errorf("%s is %d, not %d", what, got, should)
	}
}

// wantList holds a list against what it should be.
func wantList(t *testing.T, what string, got, should []int) {
	t.Helper()
	if !slices.Equal(got, should) {
		t.Errorf("%s is %v, not %v", what, got, should)
	}
}

// wantLists holds lists against what they should be.
func wantLists(t *testing.T, what string, got, should [][]int) {
	t.Helper()
	if !slices.EqualFunc(got, should, slices.Equal[[]int]) {
		t.Errorf("%s is %v, not %v", what, got, should)
	}
}

// wantCut holds a net that is cut, and where its variables are, against what they should be.
func wantCut(t *testing.T, n []api.Node, l []int, small []api.Node, places []int) {
	t.Helper()
	gotNet, gotPlaces := cone.Cut(n, l)
	if !slices.Equal(gotNet, small) || !slices.Equal(gotPlaces, places) {
		t.Errorf("Cut of %v for %v is %v and %v, not %v and %v", n, l, gotNet, gotPlaces, small, places)
	}
}

// some is a net of six inputs, 1, 2, 5, 7, 10 and 12, and of gates: 3 of 1 and 2, 4 of 3 and 1, 6 of 5 and the variable 0,
// 8 of 7 alone, 9 of the variable 0 alone, 11 of 4 and 6, 13 of 12 and 9.
func some() []api.Node {
	return net(in(), in(), gate(3, 4), gate(7, 2), in(), gate(11, 1), in(), gate(14, 15), gate(0, 1), in(), gate(13, 8), in(), gate(25, 19))
}

// P8.1: the variables on which literals hang, the inputs among them, and the greatest level.
func TestOf(t *testing.T) {
	for _, c := range []struct {
		name        string
		l           []int
		of, support []int
		depth       int
	}{
		{"no literals", nil, nil, nil, 0},
		{"an empty list", lits(), nil, nil, 0},
		{"the literal 0", lits(0), nil, nil, 0},
		{"the literal 1", lits(1), nil, nil, 0},
		{"both of the variable 0", lits(1, 0, 1), nil, nil, 0},
		{"an input", lits(2), vars(1), vars(1), 0},
		{"an input's inverse", lits(5), vars(2), vars(2), 0},
		{"inputs", lits(24, 3, 11), vars(1, 5, 12), vars(1, 5, 12), 0},
		{"a gate of two inputs", lits(6), vars(1, 2, 3), vars(1, 2), 1},
		{"a gate's inverse", lits(7), vars(1, 2, 3), vars(1, 2), 1},
		{"a gate of a gate", lits(9), vars(1, 2, 3, 4), vars(1, 2), 2},
		{"a gate of 1", lits(12), vars(5, 6), vars(5), 1},
		{"a gate of one variable", lits(16), vars(7, 8), vars(7), 1},
		{"a gate of the variable 0", lits(18), vars(9), nil, 1},
		{"its inverse", lits(19), vars(9), nil, 1},
		{"gates of gates", lits(22), vars(1, 2, 3, 4, 5, 6, 11), vars(1, 2, 5), 3},
		{"the last one", lits(26), vars(9, 12, 13), vars(12), 2},
		{"the last one's inverse", lits(27), vars(9, 12, 13), vars(12), 2},
		{"one literal twice", lits(9, 9), vars(1, 2, 3, 4), vars(1, 2), 2},
		{"an input twice", lits(4, 4), vars(2), vars(2), 0},
		{"both literals of a variable", lits(9, 8), vars(1, 2, 3, 4), vars(1, 2), 2},
		{"both literals of an input", lits(14, 15), vars(7), vars(7), 0},
		{"the deeper one first", lits(22, 16, 20), vars(1, 2, 3, 4, 5, 6, 7, 8, 10, 11), vars(1, 2, 5, 7, 10), 3},
		{"the deeper one last", lits(20, 16, 22), vars(1, 2, 3, 4, 5, 6, 7, 8, 10, 11), vars(1, 2, 5, 7, 10), 3},
		{"one on which another one hangs", lits(6, 9), vars(1, 2, 3, 4), vars(1, 2), 2},
		{"with the variable 0", lits(0, 6, 1), vars(1, 2, 3), vars(1, 2), 1},
		{"past the last variable", lits(28), nil, nil, 0},
		{"past the last variable, an inverse", lits(29), nil, nil, 0},
		{"past the last one, with others", lits(28, 6, 29, 30, 1000), vars(1, 2, 3), vars(1, 2), 1},
		{"below 0, with others", lits(-1, 6, -2, -7), vars(1, 2, 3), vars(1, 2), 1},
		{"far off, with others", append(lits(6), noLits...), vars(1, 2, 3), vars(1, 2), 1},
		{"far off, ahead of others", append(slices.Clone(noLits), 26, 27), vars(9, 12, 13), vars(12), 2},
	} {
		n := some()
		wantList(t, "Of "+c.name, cone.Of(n, c.l), c.of)
		wantList(t, "Support of "+c.name, cone.Support(n, c.l), c.support)
		want(t, "Depth of "+c.name, cone.Depth(n, c.l), c.depth)
	}
	n := net(in(), in(), gate(2, 4), in())
	wantList(t, "Of 7", cone.Of(n, lits(7)), vars(1, 2, 3))
}

// P8.1: a literal of no variable plays no part, by itself, or twice.
func TestOfNoLiteral(t *testing.T) {
	for many := range 4 {
		n := slices.Repeat(net(in(), gate(2, 2)), many)
		for _, l := range append(slices.Clone(noLits), 4*many+2, 4*many+3, 4*many+4) {
			for _, list := range [][]int{lits(l), lits(l, l)} {
				wantList(t, "Of", cone.Of(n, list), nil)
				wantList(t, "Support", cone.Support(n, list), nil)
				want(t, "Depth", cone.Depth(n, list), 0)
			}
		}
	}
}

// P8.1: each literal up to some behind the last one, so that the border is where it should be.
func TestOfBorder(t *testing.T) {
	for many := range 5 {
		n := slices.Repeat(net(in()), many)
		n = append(n, gate(1, 1))
		for l := range 2*many + 8 {
			var of, support []int
			depth := 0
			switch v := l / 2; {
			case v == many+1:
				of, depth = vars(v), 1
			case v >= 1 && v <= many:
				of, support = vars(v), vars(v)
			}
			wantList(t, "Of", cone.Of(n, lits(l)), of)
			wantList(t, "Support", cone.Support(n, lits(l)), support)
			want(t, "Depth", cone.Depth(n, lits(l)), depth)
		}
	}
}

// P8.1: a node is an input if its A is below 0, and what its B is plays no part.
func TestOddInputs(t *testing.T) {
	for _, a := range []int{-1, -2, -77, math.MinInt} {
		for _, b := range append([]int{0, 1, 2, 3, 4, 5, 6, 99}, noLits...) {
			n := net(in(), gate(a, b), gate(4, 1))
			wantList(t, "Of", cone.Of(n, lits(6)), vars(2, 3))
			wantList(t, "Of", cone.Of(n, lits(4)), vars(2))
			wantList(t, "Support", cone.Support(n, lits(7)), vars(2))
			want(t, "Depth", cone.Depth(n, lits(4)), 0)
			want(t, "Depth", cone.Depth(n, lits(6)), 1)
			wantLists(t, "Fanouts", cone.Fanouts(n), [][]int{{3}, nil, {3}, nil})
			wantList(t, "Above", cone.Above(n, 1), vars(1))
			wantList(t, "Above", cone.Above(n, 2), vars(2, 3))
			wantCut(t, n, lits(6), net(in(), gate(2, 1)), []int{0, -1, 2, 4})
		}
	}
}

// P8.1 to P8.3: nets of no nodes.
func TestNoNodes(t *testing.T) {
	for _, n := range [][]api.Node{nil, net()} {
		for _, l := range append(slices.Clone(noLits), 0, 1, 2, 3) {
			for _, list := range [][]int{nil, lits(l), lits(0, l, 1)} {
				wantList(t, "Of", cone.Of(n, list), nil)
				wantList(t, "Support", cone.Support(n, list), nil)
				want(t, "Depth", cone.Depth(n, list), 0)
				wantCut(t, n, list, nil, []int{0})
			}
			wantList(t, "Above", cone.Above(n, l), nil)
		}
		wantLists(t, "Fanouts", cone.Fanouts(n), [][]int{nil})
	}
}

// P8.2: the gates that have a variable, from the variable 0 on.
func TestFanouts(t *testing.T) {
	wantLists(t, "Fanouts", cone.Fanouts(some()), [][]int{
		{6, 9}, {3, 4}, {3}, {4}, {11}, {6}, {11}, {8}, nil, {13}, nil, nil, {13}, nil,
	})
	for _, c := range []struct {
		n    []api.Node
		want [][]int
	}{
		{net(in()), [][]int{nil, nil}},
		{net(in(), in(), in()), [][]int{nil, nil, nil, nil}},
		{net(gate(0, 0)), [][]int{{1}, nil}},
		{net(gate(1, 0)), [][]int{{1}, nil}},
		{net(gate(0, 0), gate(1, 1), gate(2, 1), gate(0, 5)), [][]int{{1, 2, 3, 4}, {3}, {4}, nil, nil}},
		{net(in(), gate(2, 2), gate(2, 3), gate(3, 3), gate(3, 2)), [][]int{nil, {2, 3, 4, 5}, nil, nil, nil, nil}},
		{net(in(), in(), gate(2, 4), gate(4, 2), gate(3, 5), gate(2, 4)), [][]int{nil, {3, 4, 5, 6}, {3, 4, 5, 6}, nil, nil, nil, nil}},
		{net(in(), gate(2, 1), gate(5, 3), gate(6, 4)), [][]int{{2}, {2, 3}, {3, 4}, {4}, nil}},
	} {
		wantLists(t, "Fanouts", cone.Fanouts(c.n), c.want)
	}
}

// P8.2: the variables that hang on one, and those that are none.
func TestAbove(t *testing.T) {
	n := some()
	should := [][]int{
		nil, {1, 3, 4, 11}, {2, 3, 4, 11}, {3, 4, 11}, {4, 11}, {5, 6, 11}, {6, 11},
		{7, 8}, {8}, {9, 13}, {10}, {11}, {12, 13}, {13}, nil, nil, nil,
	}
	for v, above := range should {
		wantList(t, "Above", cone.Above(n, v), above)
	}
	for _, v := range []int{-1, -2, -13, -14, math.MinInt, math.MinInt + 1, 26, 27, 1 << 24, 1 << 32, 1<<32 + 1, math.MaxInt - 1, math.MaxInt} {
		wantList(t, "Above", cone.Above(n, v), nil)
	}
	alike := net(in(), gate(2, 3), gate(5, 4), in(), gate(8, 1), gate(1, 6))
	for v, above := range [][]int{nil, {1, 2, 3, 6}, {2, 3, 6}, {3, 6}, {4, 5}, {5}, {6}, nil} {
		wantList(t, "Above", cone.Above(alike, v), above)
	}
	wantList(t, "Above of a gate of 1", cone.Above(net(gate(1, 1)), 0), nil)
	wantList(t, "Above of a gate of 1", cone.Above(net(gate(1, 1)), 1), vars(1))
}

// P8.3: the net that is cut, and where each variable is.
func TestCut(t *testing.T) {
	all := []int{0, 2, 4, 6, 8, 10, 12, 14, 16, 18, 20, 22, 24, 26}
	gone := []int{0, -1, -1, -1, -1, -1, -1, -1, -1, -1, -1, -1, -1, -1}
	for _, c := range []struct {
		l      []int
		small  []api.Node
		places []int
	}{
		{nil, nil, gone},
		{lits(), nil, gone},
		{lits(0), nil, gone},
		{lits(1, 0), nil, gone},
		{lits(28, -1, 29, -2, 1<<62), nil, gone},
		{noLits, nil, gone},
		{lits(2), net(in()), []int{0, 2, -1, -1, -1, -1, -1, -1, -1, -1, -1, -1, -1, -1}},
		{lits(21), net(in()), []int{0, -1, -1, -1, -1, -1, -1, -1, -1, -1, 2, -1, -1, -1}},
		{lits(9), net(in(), in(), gate(3, 4), gate(7, 2)), []int{0, 2, 4, 6, 8, -1, -1, -1, -1, -1, -1, -1, -1, -1}},
		{lits(13), net(in(), gate(3, 1)), []int{0, -1, -1, -1, -1, 2, 4, -1, -1, -1, -1, -1, -1, -1}},
		{lits(16, 16, 17), net(in(), gate(2, 3)), []int{0, -1, -1, -1, -1, -1, -1, 2, 4, -1, -1, -1, -1, -1}},
		{lits(18), net(gate(0, 1)), []int{0, -1, -1, -1, -1, -1, -1, -1, -1, 2, -1, -1, -1, -1}},
		{lits(26, 5), net(in(), gate(0, 1), in(), gate(7, 5)), []int{0, -1, 2, -1, -1, -1, -1, -1, -1, 4, -1, -1, 6, 8}},
		{lits(28, 22, -1), net(in(), in(), gate(3, 4), gate(7, 2), in(), gate(11, 1), gate(13, 8)), []int{0, 2, 4, 6, 8, 10, 12, -1, -1, -1, -1, 14, -1, -1}},
		{lits(27, 22, 20, 17), some(), all},
		{lits(2, 4, 6, 8, 10, 12, 14, 16, 18, 20, 22, 24, 26), some(), all},
		{lits(27, 25, 23, 21, 19, 17, 15, 13, 11, 9, 7, 5, 3, 1), some(), all},
	} {
		wantCut(t, some(), c.l, c.small, c.places)
	}
	alike := net(in(), in(), in(), gate(6, 4), gate(4, 6), gate(6, 4), gate(13, 11))
	wantCut(t, alike, lits(14), net(in(), in(), gate(2, 4), gate(4, 2), gate(9, 7)), []int{0, -1, 2, 4, -1, 6, 8, 10})
	odd := net(in(), gate(-5, 3), gate(math.MinInt, 99), gate(7, 4))
	wantCut(t, odd, lits(8), net(in(), in(), gate(5, 2)), []int{0, -1, 2, 4, 6})
	wantCut(t, odd, lits(5, 7), net(in(), in()), []int{0, -1, 2, 4, -1})
}

// steep is a net of as many nodes as there may be, two inputs and gates of the two nodes ahead, with as many ways as can be.
func steep() []api.Node {
	n := net(in(), in())
	for v := 3; v <= maxNodes; v++ {
		n = append(n, gate(2*(v-1)+v%2, 2*(v-2)))
	}
	return n
}

// P8.1 to P8.3: a net of as many nodes as there may be, each on the one before it.
func TestMany(t *testing.T) {
	n, last := steep(), 2*maxNodes
	if of := cone.Of(n, lits(last)); len(of) != maxNodes || of[0] != 1 || of[maxNodes-1] != maxNodes || !slices.IsSorted(of) {
		t.Error("Of the last one:", len(of))
	}
	if of := cone.Of(n, lits(last-3, 2)); len(of) != maxNodes-2 || of[len(of)-1] != maxNodes-2 {
		t.Error("Of one ahead:", len(of))
	}
	wantList(t, "Of one past the end", cone.Of(n, lits(last+2)), nil)
	wantList(t, "Support", cone.Support(n, lits(last+1)), vars(1, 2))
	want(t, "Depth", cone.Depth(n, lits(6, last, 8)), maxNodes-2)
	want(t, "Depth of one past the end", cone.Depth(n, lits(last+3)), 0)
	gates := cone.Fanouts(n)
	if len(gates) != maxNodes+1 {
		t.Fatal(len(gates))
	}
	for v, got := range gates {
		var should []int
		for _, w := range vars(v+1, v+2) {
			if v > 0 && w > 2 && w <= maxNodes {
				should = append(should, w)
			}
		}
		if !slices.Equal(got, should) {
			t.Fatalf("Fanouts of %d: %v", v, got)
		}
	}
	if above := cone.Above(n, 2); len(above) != maxNodes-1 || above[0] != 2 || above[maxNodes-2] != maxNodes {
		t.Error("Above:", len(above))
	}
	wantList(t, "Above of the last one", cone.Above(n, maxNodes), vars(maxNodes))
	wantList(t, "Above of one more", cone.Above(n, maxNodes+1), nil)
	small, places := cone.Cut(n, lits(last))
	if !slices.Equal(small, n) || len(places) != maxNodes+1 || places[maxNodes] != last {
		t.Error("Cut:", len(small), len(places))
	}
}

// P8.3: one way of as many nodes as there may be, cut below the last ones.
func TestCutOfMany(t *testing.T) {
	n := net(in(), in())
	for v := 3; v <= maxNodes; v++ {
		n = append(n, gate(1, max(2*(v-1)+v%2, 5)))
	}
	small, places := cone.Cut(n, lits(2*maxNodes-4))
	if len(small) != maxNodes-3 || len(places) != maxNodes+1 {
		t.Fatal(len(small), len(places))
	}
	for v, l := range places {
		should := 2 * (v - 1)
		if v == 0 {
			should = 0
		} else if v == 1 || v > maxNodes-2 {
			should = -1
		}
		if l != should {
			t.Fatalf("%d is at %d, not at %d", v, l, should)
		}
		if v > 2 && l >= 0 && small[v-2] != gate(1, n[v-1].B-2) {
			t.Fatalf("the gate %d is %v", v, small[v-2])
		}
	}
	want(t, "Depth", cone.Depth(n, lits(2*maxNodes)), maxNodes-2)
	if above := cone.Above(n, 2); len(above) != maxNodes-1 {
		t.Error("Above:", len(above))
	}
	if gates := cone.Fanouts(n); len(gates[0]) != maxNodes-2 {
		t.Error("Fanouts of 0:", len(gates[0]))
	}
}

// Of nets that are not good anything may be told, but without a panic.
func TestNotGood(t *testing.T) {
	bad := [][]api.Node{
		net(gate(2, 2)), net(in(), gate(9, 2)), net(in(), gate(2, -1)), net(gate(math.MaxInt, math.MinInt)),
		net(in(), gate(6, 2), gate(4, 2)), slices.Repeat(net(gate(1, 1)), maxNodes+1), append(steep(), gate(2, 4)),
	}
	for _, l := range noLits {
		bad = append(bad, net(in(), in(), gate(2, l)), net(in(), in(), gate(max(l, 0), 77)), net(in(), gate(max(l, 0), l), gate(4, 2)))
	}
	for _, n := range bad {
		cone.Fanouts(n)
		for _, l := range [][]int{nil, {0}, {2, 5}, {7}, {-1}, {2 * len(n)}, {2*len(n) + 1, 2*len(n) + 2}, noLits} {
			cone.Of(n, l)
			cone.Support(n, l)
			cone.Depth(n, l)
			cone.Cut(n, l)
		}
		for _, v := range []int{-1, 0, 1, 2, 3, 4, len(n), len(n) + 1, math.MinInt, math.MaxInt} {
			cone.Above(n, v)
		}
	}
}

// roomy is a list with spare room behind it that is marked.
func roomy[T any](mark T, l ...T) []T {
	room := append(slices.Clip(slices.Clone(l)), mark, mark, mark)
	return room[:len(l)]
}

// P8.1 to P8.3: what is handed in stays as it was, its spare room, too.
func TestHandedIn(t *testing.T) {
	n, l := roomy(gate(77, 77), some()...), roomy(77, 26, 3, 9, 9, -1, 40)
	cone.Of(n, l)
	cone.Support(n, l)
	cone.Fanouts(n)
	cone.Above(n, 1)
	cone.Depth(n, l)
	cone.Cut(n, l)
	if had := append(some(), gate(77, 77), gate(77, 77), gate(77, 77)); !slices.Equal(n[:len(n)+3], had) {
		t.Error("a net was changed:", n[:len(n)+3])
	}
	wantList(t, "l", l[:len(l)+3], []int{26, 3, 9, 9, -1, 40, 77, 77, 77})
}

// P8.1 to P8.3: lists that are told are lists of their own.
func TestMemory(t *testing.T) {
	n, l := some(), lits(22, 26)
	small, places := cone.Cut(n, l)
	other, there := cone.Cut(n, l)
	wantSmall, wantPlaces := slices.Clone(small), slices.Clone(places)
	spoil(small, gate(55, 55))
	spoil(places, 55)
	if !slices.Equal(other, wantSmall) || !slices.Equal(there, wantPlaces) {
		t.Error("one Cut changes another one")
	}
	whole, _ := cone.Cut(n, lits(22, 26, 20, 17))
	spoil(whole, gate(55, 55))
	for _, tell := range []func() []int{
		func() []int { return cone.Of(n, l) },
		func() []int { return cone.Support(n, l) },
		func() []int { return cone.Above(n, 1) },
	} {
		one, two := tell(), tell()
		had := slices.Clone(two)
		spoil(one, 55)
		wantList(t, "the other one", two, had)
		wantList(t, "one more", tell(), had)
	}
	if !slices.Equal(n, some()) {
		t.Error("the net was changed:", n)
	}
	wantList(t, "l", l, lits(22, 26))
	n[2], l[0] = in(), 6
	if !slices.Equal(other, wantSmall) {
		t.Error("a net that is handed in changes what was cut of it")
	}
}

// spoil overwrites a list and its spare room.
func spoil[T any](l []T, with T) {
	for i := range l[:cap(l)] {
		l[:cap(l)][i] = with
	}
}

// P8.2: each of the lists is a list of its own.
func TestFanoutsOfTheirOwn(t *testing.T) {
	n := net(in(), in(), gate(2, 4), gate(3, 5), gate(2, 5), gate(0, 2), gate(6, 8), gate(4, 4), gate(1, 0))
	should := cone.Fanouts(n)
	for v := range should {
		gates := cone.Fanouts(n)
		gates[v] = append(gates[v], 55)
		spoil(gates[v], 55)
		for w, got := range gates {
			if w != v {
				wantList(t, "Fanouts of another one", got, should[w])
			}
		}
	}
	wantLists(t, "Fanouts", cone.Fanouts(n), should)
}

// draw is numbers that look as if drawn.
type draw uint64

// below is the next one, below n.
func (d *draw) below(n int) int {
	*d = *d*6364136223846793005 + 1442695040888963407
	return int(uint64(*d>>33) % uint64(n))
}

// someNet is a drawn net of so many nodes, with so many inputs at the most, some of them odd.
func someNet(d *draw, many, ins int) []api.Node {
	var n []api.Node
	for i := range many {
		switch kind := d.below(8); {
		case kind < 3 && ins > 0:
			n = append(n, gate(-1-d.below(3), d.below(40)-20))
			ins--
		case kind < 6 && i > 4: // of those just ahead, so that it gets deep
			n = append(n, gate(2*i-d.below(8), 2*i-d.below(8)))
		default:
			n = append(n, gate(d.below(2*i+2), d.below(2*i+2)))
		}
	}
	return n
}

// someLits are a few drawn literals, now and then one that is of no variable of so many nodes.
func someLits(d *draw, nodes int) []int {
	l := make([]int, d.below(4))
	for i := range l {
		l[i] = d.below(2*nodes + 2)
		if d.below(8) == 0 {
			l[i] = append(noLits, 2*nodes+2, 2*nodes+3)[d.below(len(noLits)+2)]
		}
	}
	return l
}

// hangs is the variables on which literals hang, looked for again and again until there is none more.
func hangs(n []api.Node, l []int) map[int]bool {
	in := map[int]bool{}
	for _, x := range l {
		if x >= 2 && x <= 2*len(n)+1 {
			in[x/2] = true
		}
	}
	for had := -1; had != len(in); {
		had = len(in)
		for i, x := range n {
			for _, y := range []int{x.A, x.B} {
				if in[i+1] && x.A >= 0 && y >= 2 {
					in[y/2] = true
				}
			}
		}
	}
	return in
}

// level is a variable's level, by the one of its two that is farther up.
func level(n []api.Node, v int) int {
	if v == 0 || n[v-1].A < 0 {
		return 0
	}
	return 1 + max(level(n, n[v-1].A/2), level(n, n[v-1].B/2))
}

// P8.1: Of, Support and Depth are what they are by looking again and again.
func TestOfTwin(t *testing.T) {
	for seed := range 400 {
		d := draw(seed)
		n := someNet(&d, d.below(24), 99)
		for range 6 {
			l := someLits(&d, len(n))
			in := hangs(n, l)
			var of, support []int
			depth := 0
			for i, x := range n {
				if !in[i+1] {
					continue
				}
				of = append(of, i+1)
				if x.A < 0 {
					support = append(support, i+1)
				}
				depth = max(depth, level(n, i+1))
			}
			wantList(t, "Of", cone.Of(n, l), of)
			wantList(t, "Support", cone.Support(n, l), support)
			want(t, "Depth", cone.Depth(n, l), depth)
			if t.Failed() {
				t.Fatalf("seed %d: %v for %v", seed, n, l)
			}
		}
	}
}

// P8.2: Fanouts and Above are what they are by looking at each pair of variables.
func TestAboveTwin(t *testing.T) {
	for seed := range 200 {
		d := draw(seed + 1000)
		n := someNet(&d, d.below(24), 99)
		gates := make([][]int, len(n)+1)
		above := make([][]int, len(n)+2)
		for w := 1; w <= len(n); w++ {
			x, in := n[w-1], hangs(n, lits(2*w))
			for v := range len(n) + 1 {
				if x.A >= 0 && (x.A/2 == v || x.B/2 == v) {
					gates[v] = append(gates[v], w)
				}
				if in[v] {
					above[v] = append(above[v], w)
				}
			}
		}
		wantLists(t, "Fanouts", cone.Fanouts(n), gates)
		for v := range above {
			wantList(t, "Above", cone.Above(n, v), above[v])
			wantList(t, "Above below 0", cone.Above(n, -1-v), nil)
		}
		if t.Failed() {
			t.Fatalf("seed %d: %v", seed, n)
		}
	}
}

// at is where a literal is by those of its variables.
func at(places []int, l int) int { return places[l/2] ^ l%2 }

// P8.3: what is cut is those on which literals hang, in their order, with their literals as they then are.
func TestCutTwin(t *testing.T) {
	for seed := range 400 {
		d := draw(seed + 2000)
		n := someNet(&d, d.below(24), 99)
		l := someLits(&d, len(n))
		in := hangs(n, l)
		var small []api.Node
		places := []int{0}
		for i, x := range n {
			switch {
			case !in[i+1]:
				places = append(places, -1)
				continue
			case x.A < 0:
				small = append(small, gate(-1, 0))
			default:
				small = append(small, gate(at(places, x.A), at(places, x.B)))
			}
			places = append(places, 2*len(small))
		}
		wantCut(t, n, l, small, places)
		if e := aig.Check(small); e != api.OK {
			t.Error("the net isn't good:", e)
		}
		if t.Failed() {
			t.Fatalf("seed %d: %v for %v", seed, n, l)
		}
	}
}

// The values of six inputs in all sixty-four rows.
var columns = []uint64{0xaaaaaaaaaaaaaaaa, 0xcccccccccccccccc, 0xf0f0f0f0f0f0f0f0, 0xff00ff00ff00ff00, 0xffff0000ffff0000, 0xffffffff00000000}

// table is the values of a net's variables, in each row, by those of its inputs.
func table(n []api.Node, ins []uint64) []uint64 {
	vals := []uint64{0}
	for _, x := range n {
		if x.A < 0 {
			vals, ins = append(vals, ins[0]), ins[1:]
		} else {
			vals = append(vals, of(vals, x.A)&of(vals, x.B))
		}
	}
	return vals
}

// of is a literal's values.
func of(vals []uint64, l int) uint64 {
	if l%2 == 1 {
		return ^vals[l/2]
	}
	return vals[l/2]
}

// values is those of the inputs of a net, drawn anew but for the inputs that are to be as they were.
func values(d *draw, n []api.Node, as []int) []uint64 {
	ins := slices.Clone(columns)
	for k, v := range aig.Inputs(n) {
		if !slices.Contains(as, v) {
			ins[k] = uint64(d.below(1<<31))<<33 ^ uint64(d.below(1<<31))<<13 ^ ^ins[k]
		}
	}
	return ins
}

// P8.4: what is not in the Support plays no part for the literals, whatever the inputs are.
func TestSupportIsEnough(t *testing.T) {
	for seed := range 400 {
		d := draw(seed + 3000)
		n := someNet(&d, 4+d.below(20), len(columns))
		vals := table(n, columns)
		for v := 1; v <= len(n); v++ {
			l := lits(2*v, d.below(2*len(n)+2))
			other := table(n, values(&d, n, cone.Support(n, l)))
			for _, x := range l {
				if of(vals, x) != of(other, x) {
					t.Fatalf("seed %d: %v: the literal %d hangs on what is not in its Support", seed, n, x)
				}
			}
		}
	}
}

// P8.4: in the net that is cut the literals, and all on which they hang, are what they were, whatever the inputs are.
func TestCutIsTheSame(t *testing.T) {
	for seed := range 400 {
		d := draw(seed + 4000)
		n := someNet(&d, 4+d.below(20), len(columns))
		vals := table(n, columns)
		for v := 1; v <= len(n); v++ {
			l := lits(2*v+1, d.below(2*len(n)+2))
			small, places := cone.Cut(n, l)
			var ins []uint64
			for _, v := range cone.Support(n, l) {
				ins = append(ins, columns[slices.Index(aig.Inputs(n), v)])
			}
			cut := table(small, ins)
			for _, v := range append(cone.Of(n, l), 0) {
				if got := of(cut, places[v]); got != vals[v] {
					t.Fatalf("seed %d: %v: the variable %d is %016x, not %016x", seed, n, v, got, vals[v])
				}
			}
			for _, x := range l {
				if got := of(cut, at(places, x)); got != of(vals, x) {
					t.Fatalf("seed %d: %v: the literal %d is %016x, not %016x", seed, n, x, got, of(vals, x))
				}
			}
		}
	}
}

// P8.3, P8.4: what is cut, cut once more for the same literals, is as it is.
func TestCutTwice(t *testing.T) {
	for seed := range 200 {
		d := draw(seed + 5000)
		n := someNet(&d, 1+d.below(20), 99)
		l := lits(d.below(2*len(n)+2), d.below(2*len(n)+2))
		small, places := cone.Cut(n, l)
		var should []int
		for v := range len(small) + 1 {
			should = append(should, 2*v)
		}
		wantCut(t, small, lits(at(places, l[0]), at(places, l[1])), small, should)
	}
}

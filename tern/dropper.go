package tern

import (
	"slices"

	"latchet/api"
	"latchet/cone"
	"latchet/lit"
	"latchet/tri"
)

// dropper is a net's values while its inputs are dropped, one by one. By that values become Free, and nothing else, so
// that it is enough to go from what was dropped to the gates that become Free by it: no others need be looked at.
type dropper struct {
	net   []api.Node
	gates [][]int // of each variable, the gates that have it
	first []int   // the values at first
	vals  []int   // the values by now
	must  []bool  // variables that take a wanted literal with them if they become Free; others may, too
}

// newDropper is a good net's values, with literals that are to stay One.
func newDropper(n []api.Node, first, l []int) *dropper {
	d := &dropper{net: n, gates: cone.Fanouts(n), first: first, vals: slices.Clone(first), must: make([]bool, len(first))}
	for _, x := range l {
		d.hold(lit.Var(x))
	}
	return d
}

// drop makes an input Free, if the wanted literals are One even so.
func (d *dropper) drop(v int) {
	freed, may := d.free(v)
	if !may {
		for _, w := range freed {
			d.vals[w] = d.first[w]
		}
		return
	}
	for _, w := range freed {
		for _, g := range d.gates[w] {
			if d.must[g] {
				d.hold(d.causes(g)...)
			}
		}
	}
}

// free makes a variable Free, and the gates that are so by that, up to the first one that must not be: told are those
// that it made so, and whether they may be.
func (d *dropper) free(v int) ([]int, bool) {
	if d.must[v] {
		return nil, false
	}
	freed := []int{v}
	d.vals[v] = api.Free
	for i := 0; i < len(freed); i++ {
		for _, g := range d.gates[freed[i]] {
			a, b := d.sides(g)
			if d.vals[g] == api.Free || tri.And(a, b) != api.Free {
				continue
			}
			if d.must[g] {
				return freed, false
			}
			d.vals[g] = api.Free
			freed = append(freed, g)
		}
	}
	return freed, true
}

// hold marks variables that must not become Free, and those without each of which they would.
func (d *dropper) hold(vars ...int) {
	for len(vars) > 0 {
		v := vars[len(vars)-1]
		vars = vars[:len(vars)-1]
		if !d.must[v] {
			d.must[v] = true
			vars = append(vars, d.causes(v)...)
		}
	}
}

// causes is the variables without each of which a variable would be Free.
func (d *dropper) causes(v int) []int {
	if v == 0 || isInput(d.net[v-1]) {
		return nil
	}
	x := d.net[v-1]
	a, b := d.sides(v)
	switch { // a gate that is Zero by both of its literals needs neither of them
	case d.vals[v] == api.One:
		return []int{lit.Var(x.A), lit.Var(x.B)}
	case a != api.Zero:
		return []int{lit.Var(x.B)}
	case b != api.Zero:
		return []int{lit.Var(x.A)}
	}
	return nil
}

// sides is the values of a gate's two literals.
func (d *dropper) sides(g int) (int, int) {
	x := d.net[g-1]
	return tri.Lit(d.vals, x.A), tri.Lit(d.vals, x.B)
}

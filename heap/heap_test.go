package heap_test

import (
	"math"
	"slices"
	"testing"

	"latchet/api"
	"latchet/heap"
)

var (
	nan     = math.NaN()
	inf     = math.Inf(1)
	negZero = math.Copysign(0, -1)
)

// full is a heap of things of these scores, all of them in it.
func full(t *testing.T, scores ...float64) *heap.Heap {
	t.Helper()
	h := heap.New(len(scores))
	for id, x := range scores {
		if e := h.Set(id, x); e != api.OK {
			t.Fatal(id, x, e)
		}
	}
	for id := range scores {
		if e := h.Push(id); e != api.OK {
			t.Fatal(id, e)
		}
	}
	return h
}

// popped are all things of a heap, as they come.
func popped(h *heap.Heap) []int {
	var l []int
	for id, ok := h.Pop(); ok; id, ok = h.Pop() {
		l = append(l, id)
	}
	return l
}

// wantIn holds what is in a heap of n things against a list in order.
func wantIn(t *testing.T, h *heap.Heap, n int, want ...int) {
	t.Helper()
	if got := h.List(); !slices.Equal(got, want) {
		t.Errorf("in it is %v, not %v", got, want)
	}
	if h.Len() != len(want) {
		t.Errorf("Len is %d, not %d", h.Len(), len(want))
	}
	for id := -1; id <= n; id++ {
		if h.Has(id) != slices.Contains(want, id) {
			t.Errorf("Has(%d) is %v", id, h.Has(id))
		}
	}
}

// wantScore holds a thing's score against what it should be, bit by bit.
func wantScore(t *testing.T, h *heap.Heap, id int, want float64) {
	t.Helper()
	if got := h.Score(id); math.Float64bits(got) != math.Float64bits(want) {
		t.Errorf("Score(%d) is %v, not %v", id, got, want)
	}
}

// P6.1: nothing is in a new heap, and all scores are 0.
func TestNew(t *testing.T) {
	for _, n := range []int{0, 1, 2, 7, 100} {
		h := heap.New(n)
		if h == nil {
			t.Fatalf("New(%d) is nil", n)
		}
		wantIn(t, h, n)
		for id := -1; id <= n; id++ {
			wantScore(t, h, id, 0)
		}
		if id, ok := h.Pop(); id != 0 || ok {
			t.Errorf("New(%d) holds %d", n, id)
		}
		for id := range n {
			if e := h.Push(id); e != api.OK {
				t.Errorf("New(%d) lacks the thing %d: %v", n, id, e)
			}
		}
		if e := h.Push(n); e != api.ErrArg {
			t.Errorf("New(%d) has the thing %d: %v", n, n, e)
		}
	}
}

// P6.1: how many things there may be.
func TestNewOfTooMany(t *testing.T) {
	for _, n := range []int{-1, -2, math.MinInt, api.MaxNodes + 1, math.MaxInt32, math.MaxInt} {
		if heap.New(n) != nil {
			t.Errorf("New(%d) is not nil", n)
		}
	}
	h := heap.New(api.MaxNodes)
	if h == nil {
		t.Fatal("New(MaxNodes) is nil")
	}
	const last = 1<<20 - 1
	if h.Len() != 0 || h.Has(last) || h.Score(last) != 0 {
		t.Error("something is in a new heap of MaxNodes")
	}
	if e := h.Push(last); e != api.OK {
		t.Error(e)
	}
	if e := h.Push(last + 1); e != api.ErrArg {
		t.Error(e)
	}
	if e := h.Set(last+1, 1); e != api.ErrArg {
		t.Error(e)
	}
	h.Push(3)
	if e := h.Set(last, 2); e != api.OK || !slices.Equal(h.List(), []int{last, 3}) {
		t.Error(e, h.List())
	}
}

// orders are scores, and the order in which things of them stand.
var orders = []struct {
	name   string
	scores []float64
	want   []int
}{
	{"none", nil, nil},
	{"one", []float64{-3}, []int{0}},
	{"the chapter's", []float64{1, nan, 1}, []int{0, 2, 1}},
	{"greater ones first", []float64{1, 3, 2, 5, 4}, []int{3, 4, 1, 2, 0}},
	{"falling", []float64{5, 4, 3, 2, 1, 0, -1}, []int{0, 1, 2, 3, 4, 5, 6}},
	{"rising", []float64{-1, 0, 1, 2, 3, 4, 5}, []int{6, 5, 4, 3, 2, 1, 0}},
	{"alike", []float64{7, 7, 7, 7, 7, 7, 7, 7, 7}, []int{0, 1, 2, 3, 4, 5, 6, 7, 8}},
	{"alike, and not", []float64{1, 2, 1, 2, 1, 2}, []int{1, 3, 5, 0, 2, 4}},
	{"all NaN", []float64{nan, nan, nan, nan}, []int{0, 1, 2, 3}},
	{"NaN last", []float64{nan, -inf, nan, inf, 0, nan}, []int{3, 4, 1, 0, 2, 5}},
	{"infinite", []float64{-inf, math.MaxFloat64, inf, -math.MaxFloat64, -inf, inf}, []int{2, 5, 1, 3, 0, 4}},
	{"both zeros", []float64{negZero, 0, negZero, 0, 5e-324, -5e-324}, []int{4, 0, 1, 2, 3, 5}},
	{"zeros, the other way", []float64{0, negZero, 0, negZero}, []int{0, 1, 2, 3}},
	{"near to one another", []float64{1, math.Nextafter(1, 2), math.Nextafter(1, 0)}, []int{1, 0, 2}},
}

// P6.1, P6.2, P6.3: the order, as List tells it, and as Pop does.
func TestOrder(t *testing.T) {
	for _, o := range orders {
		h := full(t, o.scores...)
		if got := h.List(); !slices.Equal(got, o.want) {
			t.Errorf("%s: List is %v, not %v", o.name, got, o.want)
		}
		if got := popped(h); !slices.Equal(got, o.want) {
			t.Errorf("%s: popped are %v, not %v", o.name, got, o.want)
		}
	}
}

// P6.1, P6.2: the order hangs neither on which one was pushed first, nor on when a score was set.
func TestOrderOfPushes(t *testing.T) {
	for _, o := range orders {
		n := len(o.scores)
		for turn := range n {
			h := heap.New(n)
			for i := range n {
				id := (n - 1 - i + turn) % n
				if e := h.Push(id); e != api.OK {
					t.Fatal(e)
				}
			}
			for id, x := range o.scores {
				h.Set(id, x)
			}
			if got := popped(h); !slices.Equal(got, o.want) {
				t.Errorf("%s, turned by %d: popped are %v, not %v", o.name, turn, got, o.want)
			}
		}
	}
}

// P6.2: what is pushed is in it, once.
func TestPush(t *testing.T) {
	h := heap.New(4)
	for _, id := range []int{2, 0, 3} {
		if e := h.Push(id); e != api.OK {
			t.Fatal(id, e)
		}
		if e := h.Push(id); e != api.ErrTwice {
			t.Errorf("Push(%d) once more: %v", id, e)
		}
	}
	wantIn(t, h, 4, 0, 2, 3)
	for _, id := range []int{-1, 4, 5, math.MinInt, math.MaxInt} {
		if e := h.Push(id); e != api.ErrArg {
			t.Errorf("Push(%d): %v", id, e)
		}
	}
	wantIn(t, h, 4, 0, 2, 3)
	if e := heap.New(0).Push(0); e != api.ErrArg {
		t.Error(e)
	}
}

// P6.2: what is popped is in it no more, and can be pushed again.
func TestPop(t *testing.T) {
	h := full(t, 1, 9, 5)
	for _, step := range []struct {
		id   int
		left []int
	}{{1, []int{2, 0}}, {2, []int{0}}, {0, nil}} {
		if id, ok := h.Pop(); id != step.id || !ok {
			t.Fatalf("popped is %d, %v, not %d", id, ok, step.id)
		}
		wantIn(t, h, 3, step.left...)
	}
	for range 2 {
		if id, ok := h.Pop(); id != 0 || ok {
			t.Errorf("of an empty heap: %d, %v", id, ok)
		}
	}
	if id, ok := heap.New(0).Pop(); id != 0 || ok {
		t.Errorf("of no things: %d, %v", id, ok)
	}
	for id, x := range []float64{1, 9, 5} {
		wantScore(t, h, id, x)
		if e := h.Push(id); e != api.OK {
			t.Errorf("Push(%d) after Pop: %v", id, e)
		}
	}
	wantIn(t, h, 3, 1, 2, 0)
	if id, ok := h.Pop(); id != 1 || !ok {
		t.Error(id, ok)
	}
	if e := h.Push(1); e != api.OK {
		t.Error(e)
	}
	if e := h.Push(1); e != api.ErrTwice {
		t.Error(e)
	}
	if got := popped(h); !slices.Equal(got, []int{1, 2, 0}) {
		t.Error(got)
	}
}

// P6.2: a score is set whether its thing is in the heap or not, and puts nothing into it.
func TestSet(t *testing.T) {
	h := heap.New(3)
	for id, x := range []float64{4, nan, negZero} {
		if e := h.Set(id, x); e != api.OK {
			t.Fatal(e)
		}
		wantScore(t, h, id, x)
	}
	wantIn(t, h, 3)
	for _, id := range []int{-1, 3, math.MinInt, math.MaxInt} {
		if e := h.Set(id, 8); e != api.ErrArg {
			t.Errorf("Set(%d): %v", id, e)
		}
		wantScore(t, h, id, 0)
	}
	wantScore(t, h, 0, 4)
	wantScore(t, h, 2, negZero)
	if e := heap.New(0).Set(0, 1); e != api.ErrArg {
		t.Error(e)
	}
	h.Push(1)
	h.Push(2)
	h.Set(0, -5)
	wantIn(t, h, 3, 2, 1)
	h.Push(0)
	wantIn(t, h, 3, 2, 0, 1)
	h.Set(2, -inf)
	wantIn(t, h, 3, 0, 2, 1)
	h.Pop()
	h.Set(0, nan)
	wantIn(t, h, 3, 2, 1)
	wantScore(t, h, 0, nan)
	h.Push(0)
	wantIn(t, h, 3, 2, 0, 1)
}

// P6.1, P6.2: each thing of a heap, set to each score beside those of the others, takes its place, and the others keep theirs.
func TestSetMoves(t *testing.T) {
	const n = 12
	for id := range n {
		for half := -1; half <= 2*n; half++ {
			h := heap.New(n)
			for i := range n {
				h.Set(i, float64(i))
				h.Push(i)
			}
			h.Set(id, float64(half)/2)
			var want []int
			for i := n - 1; i >= 0; i-- {
				if i != id {
					want = append(want, i)
				}
			}
			at := 0
			for at < len(want) && (2*want[at] > half || 2*want[at] == half && want[at] < id) {
				at++
			}
			want = slices.Insert(want, at, id)
			if got := h.Clone().List(); !slices.Equal(got, want) {
				t.Fatalf("%d set to %d/2: List is %v, not %v", id, half, got, want)
			}
			if got := popped(h); !slices.Equal(got, want) {
				t.Fatalf("%d set to %d/2: popped are %v, not %v", id, half, got, want)
			}
		}
	}
}

// P6.3: a score is told with all its bits, and 0 of no such thing.
func TestScore(t *testing.T) {
	h := heap.New(8)
	l := []float64{1.5, -2, inf, -inf, nan, negZero, 5e-324, math.MaxFloat64}
	for id, x := range l {
		h.Set(id, x)
	}
	for range 2 {
		for id, x := range l {
			wantScore(t, h, id, x)
			h.Push(id)
			wantScore(t, h, id, x)
		}
	}
	for _, id := range []int{-1, 8, math.MinInt, math.MaxInt} {
		wantScore(t, h, id, 0)
		if h.Has(id) {
			t.Errorf("Has(%d)", id)
		}
	}
	wantScore(t, heap.New(0), 0, 0)
	h.Set(2, 0)
	h.Set(2, 7)
	wantScore(t, h, 2, 7)
}

// P6.3: List is a list of its own, and takes nothing out.
func TestListOfItsOwn(t *testing.T) {
	h := full(t, 3, 1, 2)
	one, two := h.List(), h.List()
	for i := range one {
		one[i] = 77
	}
	_ = append(one, 78)
	if !slices.Equal(two, []int{0, 2, 1}) {
		t.Error("one list changes another one", two)
	}
	wantIn(t, h, 3, 0, 2, 1)
	three := h.List()
	h.Pop()
	h.Set(1, 9)
	if !slices.Equal(three, []int{0, 2, 1}) {
		t.Error("a heap changes its list", three)
	}
	if got := popped(h); !slices.Equal(got, []int{1, 2}) {
		t.Error(got)
	}
}

// P6.3: a clone goes its own way, and so does what it was made of.
func TestClone(t *testing.T) {
	h := full(t, 1, 4, 3, 2)
	h.Pop()
	one := h.Clone()
	wantIn(t, one, 4, 2, 3, 0)
	for id, x := range []float64{1, 4, 3, 2} {
		wantScore(t, one, id, x)
	}
	one.Set(0, 10)
	one.Push(1)
	one.Set(3, nan)
	wantIn(t, one, 4, 0, 1, 2, 3)
	wantIn(t, h, 4, 2, 3, 0)
	wantScore(t, h, 0, 1)
	wantScore(t, h, 3, 2)
	h.Set(2, -1)
	h.Pop()
	h.Pop()
	wantIn(t, h, 4, 2)
	wantIn(t, one, 4, 0, 1, 2, 3)
	wantScore(t, one, 2, 3)
	if e := h.Push(3); e != api.OK {
		t.Error(e)
	}
	if got := popped(one); !slices.Equal(got, []int{0, 1, 2, 3}) {
		t.Error(got)
	}
	wantIn(t, h, 4, 3, 2)
	none := heap.New(0).Clone()
	if none == nil {
		t.Fatal("the clone of an empty heap is nil")
	}
	wantIn(t, none, 0)
	if e := heap.New(3).Clone().Push(2); e != api.OK {
		t.Error(e)
	}
}

// P6.3: of a nil heap there is nothing.
func TestNil(t *testing.T) {
	var h *heap.Heap
	for _, id := range []int{-1, 0, 1, math.MaxInt} {
		if e := h.Push(id); e != api.ErrArg {
			t.Errorf("Push(%d): %v", id, e)
		}
		if e := h.Set(id, 1); e != api.ErrArg {
			t.Errorf("Set(%d): %v", id, e)
		}
		wantScore(t, h, id, 0)
		if h.Has(id) {
			t.Errorf("Has(%d)", id)
		}
	}
	if id, ok := h.Pop(); id != 0 || ok {
		t.Error(id, ok)
	}
	if h.Len() != 0 || len(h.List()) != 0 || h.Clone() != nil {
		t.Error(h.Len(), h.List(), h.Clone())
	}
}

// twin is a heap without any order of its own: it looks at all that is in it.
type twin struct {
	scores []float64
	in     []bool
}

// rank is a score's rank among those of the twin's test: NaN is behind all, and zeros are alike.
func rank(x float64) float64 {
	if math.IsNaN(x) {
		return -1000
	}
	if math.IsInf(x, 0) {
		return math.Copysign(900, x)
	}
	return x + 0
}

// list is what is in the twin, in order.
func (w *twin) list() []int {
	var l []int
	for id, in := range w.in {
		if !in {
			continue
		}
		at := 0
		for at < len(l) && rank(w.scores[l[at]]) >= rank(w.scores[id]) {
			at++
		}
		l = slices.Insert(l, at, id)
	}
	return l
}

// draw is numbers that look as if drawn.
type draw uint64

// below is the next one, below n.
func (d *draw) below(n int) int {
	*d = *d*6364136223846793005 + 1442695040888963407
	return int(uint64(*d>>33) % uint64(n))
}

// some are scores, few enough that many things have the same one.
var some = []float64{0, negZero, 1, 2, 3, 2.5, -1, -4, nan, inf, -inf, 5e-324}

// change does one drawn thing to a heap and to its twin, and tells whether both answered alike.
func change(d *draw, h *heap.Heap, w *twin) bool {
	n := len(w.in)
	switch d.below(5) {
	case 0, 1:
		id := d.below(n+2) - 1
		want := api.OK
		switch {
		case id < 0 || id >= n:
			want = api.ErrArg
		case w.in[id]:
			want = api.ErrTwice
		default:
			w.in[id] = true
		}
		return h.Push(id) == want
	case 2:
		id, ok := h.Pop()
		l := w.list()
		if len(l) == 0 {
			return id == 0 && !ok
		}
		w.in[l[0]] = false
		return id == l[0] && ok
	}
	id, x := d.below(n+2)-1, some[d.below(len(some))]
	if id < 0 || id >= n {
		return h.Set(id, x) == api.ErrArg
	}
	w.scores[id] = x
	return h.Set(id, x) == api.OK
}

// P6.1 to P6.4: a heap, and one that looks at all that is in it, answer alike.
func TestTwin(t *testing.T) {
	for seed := range 40 {
		d, n := draw(seed), seed%37+1
		h, w := heap.New(n), &twin{make([]float64, n), make([]bool, n)}
		for step := range 400 {
			if !change(&d, h, w) {
				t.Fatalf("seed %d: step %d is answered in another way", seed, step)
			}
			if step%7 == 0 {
				h = h.Clone()
			}
			wantIn(t, h, n, w.list()...)
			for id := range n {
				wantScore(t, h, id, w.scores[id])
			}
			if t.Failed() {
				t.Fatalf("seed %d: step %d", seed, step)
			}
		}
	}
}

// P6.4: what is popped stands ahead of all that stays.
func TestPoppedIsAhead(t *testing.T) {
	const n = 300
	for seed := range 20 {
		d, h := draw(seed+1000), heap.New(n)
		for range 2 * n {
			id := d.below(n)
			h.Set(id, some[d.below(len(some))])
			h.Push(d.below(n))
		}
		for h.Len() > 0 {
			before := h.Len()
			id, ok := h.Pop()
			if !ok || h.Has(id) || h.Len() != before-1 {
				t.Fatal(id, ok, before, h.Len())
			}
			for other := range n {
				if !h.Has(other) {
					continue
				}
				a, b := rank(h.Score(id)), rank(h.Score(other))
				if a < b || a == b && id > other {
					t.Fatalf("seed %d: %d of %v is popped ahead of %d of %v", seed, id, h.Score(id), other, h.Score(other))
				}
			}
			// What stays takes other scores, ahead of what was popped, too.
			h.Set(d.below(n), some[d.below(len(some))])
		}
	}
}

// P6.2, P6.3: a call that is refused changes nothing, and the same calls answer the same.
func TestSameCalls(t *testing.T) {
	play := func(wrong bool) []int {
		d, h := draw(5), heap.New(20)
		var told []int
		for range 300 {
			h.Set(d.below(20), some[d.below(len(some))])
			if id := d.below(20); !h.Has(id) {
				h.Push(id)
			}
			if wrong {
				h.Push(-1)
				h.Push(20)
				h.Set(-1, inf)
				h.Set(20, inf)
				for _, id := range h.List() {
					h.Push(id)
				}
			}
			if d.below(3) == 0 {
				id, _ := h.Pop()
				told = append(told, id)
			}
			told = append(told, h.List()...)
		}
		return told
	}
	want := play(false)
	if got := play(false); !slices.Equal(got, want) {
		t.Error("the same calls answer something else")
	}
	if got := play(true); !slices.Equal(got, want) {
		t.Error("a call that is refused changes something")
	}
}

// P6.1, P6.4: a heap of as many things as there may be, in order.
func TestMany(t *testing.T) {
	h := heap.New(api.MaxNodes)
	// A step that is odd goes through all things; its product is the score.
	const odd = 386_021
	for i := range api.MaxNodes {
		id := i * odd % api.MaxNodes
		h.Set(id, float64(id/3))
		if e := h.Push(id); e != api.OK {
			t.Fatal(id, e)
		}
	}
	list := h.List()
	if len(list) != api.MaxNodes || h.Len() != api.MaxNodes {
		t.Fatal(len(list), h.Len())
	}
	// The last third is 349525: of that score is the last thing alone, of each other one three things.
	want := api.MaxNodes - 1
	for i, id := range list {
		got, ok := h.Pop()
		if !ok || got != id || id != want {
			t.Fatalf("the thing %d: List tells %d, Pop %d, not %d", i, id, got, want)
		}
		if id == api.MaxNodes-1 || id%3 == 2 {
			want = (id/3 - 1) * 3
		} else {
			want = id + 1
		}
	}
}

package rand_test

import (
	"math"
	"math/big"
	"slices"
	"testing"

	"latchet/rand"
)

// The state that the next step takes round to 0.
const beforeZero = 0x61c8864680b583eb

// seeds are seeds of all lengths, the edges among them.
func seeds() []uint64 {
	l := []uint64{0, 1, 2, 1234567, beforeZero - 1, beforeZero, beforeZero + 1, math.MaxInt64, 1 << 63, math.MaxUint64 - 1, math.MaxUint64}
	x := uint64(99)
	for i := range 60 {
		x = x*6364136223846793005 + 1442695040888963407
		l = append(l, x>>i)
	}
	return l
}

// tooFew are numbers below which there is none that counts.
var tooFew = []int{0, -1, -2, -64, -100000, -1 << 32, math.MinInt + 1, math.MinInt}

// noPerms are numbers of which Perm has none.
var noPerms = []int{-1, -2, -100000, -100001, math.MinInt + 1, math.MinInt, 100001, 100002, 1 << 20, 1 << 32, 1<<32 + 1, 1 << 62, math.MaxInt - 1, math.MaxInt}

// twin is the generator by numbers of any length, whose sums and products are cut by a division.
type twin struct{ state *big.Int }

func newTwin(seed uint64) *twin { return &twin{new(big.Int).SetUint64(seed)} }

// cut is what is left of a number by 64 bits.
func cut(x *big.Int) *big.Int {
	return new(big.Int).Mod(x, new(big.Int).Lsh(big.NewInt(1), 64))
}

// apart is where a number and its part by a power of 2 differ.
func apart(x *big.Int, power int64) *big.Int {
	by := new(big.Int).Exp(big.NewInt(2), big.NewInt(power), nil)
	return new(big.Int).Xor(x, new(big.Int).Quo(x, by))
}

func (w *twin) next() uint64 {
	number := func(s string) *big.Int {
		x, _ := new(big.Int).SetString(s, 16)
		return x
	}
	w.state = cut(new(big.Int).Add(w.state, number("9e3779b97f4a7c15")))
	z := cut(new(big.Int).Mul(apart(w.state, 30), number("bf58476d1ce4e5b9")))
	z = cut(new(big.Int).Mul(apart(z, 27), number("94d049bb133111eb")))
	return apart(z, 31).Uint64()
}

func (w *twin) below(n int) int {
	x := new(big.Int).SetUint64(w.next())
	return int(x.Mod(x, big.NewInt(int64(n))).Int64())
}

func (w *twin) perm(n int) []int {
	var l []int
	for len(l) < n {
		l = append(l, len(l))
	}
	for i := n - 1; i >= 1; i-- {
		j := w.below(i + 1)
		was := l[i]
		l[i] = l[j]
		l[j] = was
	}
	return l
}

// sum is a number that changes with the order of a list.
func sum(l []int) uint64 {
	s := uint64(0)
	for _, x := range l {
		s = 31*s + uint64(x)
	}
	return s
}

// P4.1: numbers that were worked out by another program.
func TestNext(t *testing.T) {
	for _, x := range []struct {
		seed uint64
		want []uint64
	}{
		{0, []uint64{0xe220a8397b1dcdaf, 0x6e789e6aa1b965f4, 0x06c45d188009454f, 0xf88bb8a8724c81ec, 0x1b39896a51a8749b}},
		{1, []uint64{0x910a2dec89025cc1, 0xbeeb8da1658eec67, 0xf893a2eefb32555e, 0x71c18690ee42c90b, 0x71bb54d8d101b5b9}},
		{1234567, []uint64{6457827717110365317, 3203168211198807973, 9817491932198370423, 4593380528125082431, 16408922859458223821}},
		{math.MaxInt64, []uint64{0x2a67d7552e039ea7, 0xf20c01408082f947, 0xec159351af424190, 0x2020319894995bfb, 0x532168fd38c3f6cb}},
		{1 << 63, []uint64{0x481ec0a212a9f3db, 0xc46fa638a6309012, 0x61a685ffc80a8140, 0x592e268383e356f9, 0x0c8881ee746884d3}},
		{math.MaxUint64, []uint64{0xe4d971771b652c20, 0xe99ff867dbf682c9, 0x382ff84cb27281e9, 0x6d1db36ccba982d2, 0xb4a0472e578069ae}},
		{math.MaxUint64 - 1, []uint64{0xf3203e9039f4a821, 0xba56949915dcf9e9, 0xd0d5127a96e8d90d, 0x1ef156bb76650c37, 0x7842841591543f1d}},
	} {
		r := rand.New(x.seed)
		for i, want := range x.want {
			if got := r.Next(); got != want {
				t.Errorf("of %#x number %d is %#x, want %#x", x.seed, i, got, want)
			}
		}
	}
}

// P4.1: a state that goes round is cut to 64 bits, and 0 is one like others.
func TestNextGoesRound(t *testing.T) {
	for _, x := range []struct {
		seed uint64
		want []uint64
	}{
		{beforeZero - 1, []uint64{0xb4d055fcf2cbbd7b, 0xe4d971771b652c20, 0xe99ff867dbf682c9}},
		{beforeZero, []uint64{0, 0xe220a8397b1dcdaf, 0x6e789e6aa1b965f4}},
		{beforeZero + 1, []uint64{0x5692161d100b05e5, 0x910a2dec89025cc1, 0xbeeb8da1658eec67}},
	} {
		r := rand.New(x.seed)
		for i, want := range x.want {
			if got := r.Next(); got != want {
				t.Errorf("of %#x number %d is %#x, want %#x", x.seed, i, got, want)
			}
		}
	}
}

// P4.1: the same as with numbers of any length, for many seeds and steps.
func TestNextIsWide(t *testing.T) {
	for _, seed := range seeds() {
		r, w := rand.New(seed), newTwin(seed)
		for i := range 50 {
			if got, want := r.Next(), w.next(); got != want {
				t.Fatalf("of %#x number %d is %#x, want %#x", seed, i, got, want)
			}
		}
	}
}

// P4.1: the state gets the same more each time, so that a seed that has it more is a step ahead.
func TestNextOfLaterSeed(t *testing.T) {
	for _, seed := range seeds() {
		r, ahead := rand.New(seed), rand.New(seed-beforeZero)
		r.Next()
		for i := range 10 {
			if got, want := ahead.Next(), r.Next(); got != want {
				t.Fatalf("of %#x a step ahead number %d is %#x, want %#x", seed, i, got, want)
			}
		}
	}
}

// P4.2: numbers that were worked out by another program; those of 64 bits are not below 0.
func TestBelow(t *testing.T) {
	for _, x := range []struct {
		n    int
		want []int
	}{
		{1, []int{0, 0, 0, 0}},
		{2, []int{1, 0, 1, 0}},
		{3, []int{1, 0, 1, 1}},
		{7, []int{2, 1, 2, 4}},
		{10, []int{5, 0, 9, 4}},
		{1000, []int{535, 700, 679, 444}},
		{1 << 32, []int{2065550767, 2713282036, 2148091215, 1917616620}},
		{1<<32 + 1, []int{2566727031, 859883402, 2034559031, 2042677573}},
		{1 << 62, []int{2459150361376443823, 3348600503766967796, 487617019471545679, 4074553321498378732}},
		{math.MaxInt, []int{7070836379803831728, 7960286522194355700, 487617019471545679, 8686239339925766637}},
	} {
		r := rand.New(0)
		for i, want := range x.want {
			if got := r.Below(x.n); got != want {
				t.Errorf("number %d below %d is %d, want %d", i, x.n, got, want)
			}
		}
	}
}

// P4.2: what is left of one Next, by n.
func TestBelowIsWide(t *testing.T) {
	for _, seed := range seeds() {
		r, w := rand.New(seed), newTwin(seed)
		for n := 1; n > 0; n += n/3 + 1 {
			got, want := r.Below(n), w.below(n)
			if got != want || got < 0 || got >= n {
				t.Fatalf("of %#x below %d is %d, want %d", seed, n, got, want)
			}
		}
	}
}

// P4.2: below 1 there is just 0, for one Next.
func TestBelowOne(t *testing.T) {
	for _, seed := range seeds() {
		r, w := rand.New(seed), rand.New(seed)
		for range 3 {
			if got := r.Below(1); got != 0 {
				t.Errorf("of %#x below 1 is %d", seed, got)
			}
			w.Next()
		}
		if got, want := r.Next(), w.Next(); got != want {
			t.Errorf("of %#x behind Below(1) is %#x, want %#x", seed, got, want)
		}
	}
}

// P4.2: below numbers that are below 1 it is 0, for no Next.
func TestBelowTooFew(t *testing.T) {
	for _, seed := range seeds() {
		r, w := rand.New(seed), rand.New(seed)
		for _, n := range tooFew {
			if got := r.Below(n); got != 0 {
				t.Errorf("of %#x below %d is %d", seed, n, got)
			}
			if got, want := r.Next(), w.Next(); got != want {
				t.Errorf("of %#x behind Below(%d) is %#x, want %#x", seed, n, got, want)
			}
		}
	}
}

// P4.2: a truth is the lowest bit of one Next.
func TestBit(t *testing.T) {
	r := rand.New(0)
	for i, want := range []int{1, 0, 1, 0, 1, 0, 1, 0, 1, 0, 1, 0, 1, 1, 1, 1} {
		if got := r.Bit(); got != (want == 1) {
			t.Errorf("of 0 truth %d is %t", i, got)
		}
	}
	for _, seed := range seeds() {
		r, w := rand.New(seed), newTwin(seed)
		for i := range 40 {
			if got, want := r.Bit(), w.next()&1 == 1; got != want {
				t.Fatalf("of %#x truth %d is %t", seed, i, got)
			}
		}
		if got, want := r.Next(), w.next(); got != want {
			t.Errorf("of %#x behind truths is %#x, want %#x", seed, got, want)
		}
	}
}

// P4.2: lists that were worked out by another program, and the Next behind each.
func TestPerm(t *testing.T) {
	for _, x := range []struct {
		seed uint64
		want []int
		next uint64
	}{
		{0, nil, 0xe220a8397b1dcdaf},
		{0, []int{0}, 0xe220a8397b1dcdaf},
		{0, []int{0, 1}, 0x6e789e6aa1b965f4},
		{0, []int{2, 0, 1}, 0x06c45d188009454f},
		{0, []int{2, 3, 1, 4, 0}, 0x1b39896a51a8749b},
		{0, []int{6, 3, 2, 9, 8, 1, 4, 7, 0, 5}, 0xf3b8488c368cb0a6},
		{1, []int{0, 1, 2}, 0xf893a2eefb32555e},
		{1, []int{2, 1, 4, 3, 0}, 0x71bb54d8d101b5b9},
		{1, []int{4, 2, 8, 1, 9, 3, 0, 6, 7, 5}, 0xcb435c8e74616796},
		{math.MaxUint64, []int{0}, 0xe4d971771b652c20},
		{math.MaxUint64, []int{1, 0}, 0xe99ff867dbf682c9},
		{math.MaxUint64, []int{2, 0, 3, 4, 1}, 0xb4a0472e578069ae},
		{math.MaxUint64, []int{3, 4, 2, 7, 5, 0, 8, 1, 9, 6}, 0x31e50fe7bbd6e1c},
	} {
		r := rand.New(x.seed)
		if got := r.Perm(len(x.want)); !slices.Equal(got, x.want) {
			t.Errorf("of %#x Perm(%d) is %v, want %v", x.seed, len(x.want), got, x.want)
		}
		if got := r.Next(); got != x.next {
			t.Errorf("of %#x behind Perm(%d) is %#x, want %#x", x.seed, len(x.want), got, x.next)
		}
	}
}

// P4.2: long lists, up to the longest one, by a number that was worked out by another program.
func TestPermLong(t *testing.T) {
	for _, x := range []struct {
		n         int
		sum, next uint64
	}{
		{1000, 6340388805634456348, 0x9793fb91046fffee},
		{99999, 4912651493386949793, 0xa0c6752874903337},
		{100000, 9663606422519980170, 0xbc59b764da5fb1b3},
	} {
		r := rand.New(7)
		got := r.Perm(x.n)
		if len(got) != x.n || sum(got) != x.sum {
			t.Errorf("Perm(%d) has %d numbers, and the sum %d, want %d", x.n, len(got), sum(got), x.sum)
		}
		if got := r.Next(); got != x.next {
			t.Errorf("behind Perm(%d) is %#x, want %#x", x.n, got, x.next)
		}
	}
}

// P4.2: from the last one down, each with one that is not behind it, one list after the other.
func TestPermOrder(t *testing.T) {
	for _, seed := range seeds() {
		r, w := rand.New(seed), newTwin(seed)
		for n := range 24 {
			if got, want := r.Perm(n), w.perm(n); !slices.Equal(got, want) {
				t.Fatalf("of %#x Perm(%d) is %v, want %v", seed, n, got, want)
			}
		}
		if got, want := r.Next(), w.next(); got != want {
			t.Errorf("of %#x behind lists is %#x, want %#x", seed, got, want)
		}
	}
}

// P4.2: of 0 and of 1 there is nothing to change about, and no Next.
func TestPermShort(t *testing.T) {
	for _, seed := range seeds() {
		r, w := rand.New(seed), rand.New(seed)
		for n := range 2 {
			if got := r.Perm(n); len(got) != n || n == 1 && got[0] != 0 {
				t.Errorf("of %#x Perm(%d) is %v", seed, n, got)
			}
			if got, want := r.Next(), w.Next(); got != want {
				t.Errorf("of %#x behind Perm(%d) is %#x, want %#x", seed, n, got, want)
			}
		}
	}
}

// P4.2: below 0 and above 100000 there is none, and no Next.
func TestPermNone(t *testing.T) {
	r, w := rand.New(5), rand.New(5)
	for _, n := range noPerms {
		if got := r.Perm(n); len(got) != 0 {
			t.Errorf("Perm(%d) has %d numbers", n, len(got))
		}
		if got, want := r.Next(), w.Next(); got != want {
			t.Errorf("behind Perm(%d) is %#x, want %#x", n, got, want)
		}
	}
}

// P4.3: a clone has the state that its origin had then, and neither changes the other one.
func TestClone(t *testing.T) {
	for _, seed := range seeds() {
		r, w := rand.New(seed), newTwin(seed)
		var clones []*rand.Rand
		var numbers []uint64
		for range 8 {
			clones = append(clones, r.Clone())
			want := w.next()
			if got := r.Next(); got != want {
				t.Fatalf("of %#x beside clones is %#x, want %#x", seed, got, want)
			}
			numbers = append(numbers, want)
		}
		for i, c := range clones {
			for k, want := range numbers[i:] {
				if got := c.Next(); got != want {
					t.Fatalf("of %#x clone %d is %#x at %d, want %#x", seed, i, got, k, want)
				}
			}
		}
		if got, want := r.Next(), w.next(); got != want {
			t.Errorf("of %#x behind clones is %#x, want %#x", seed, got, want)
		}
	}
}

// P4.3: whatever a clone, or a clone of it, is asked, the others are where they were.
func TestCloneGoesItsOwnWay(t *testing.T) {
	for _, seed := range seeds() {
		r, w := rand.New(seed), rand.New(seed)
		c := r.Clone()
		d := c.Clone()
		if c == r || d == c {
			t.Fatalf("of %#x a clone is its origin", seed)
		}
		c.Perm(9)
		c.Below(5)
		c.Bit()
		d.Next()
		if got, want := r.Next(), w.Next(); got != want {
			t.Errorf("of %#x beside clones is %#x, want %#x", seed, got, want)
		}
		if got, want := d.Next(), w.Next(); got != want {
			t.Errorf("of %#x the clone's clone is %#x, want %#x", seed, got, want)
		}
		for range 8 {
			w.Next()
		}
		if got, want := c.Next(), w.Next(); got != want {
			t.Errorf("of %#x the clone is %#x, want %#x", seed, got, want)
		}
	}
}

// P4.3: of a nil one there is nothing, however it is asked.
func TestNil(t *testing.T) {
	var r *rand.Rand
	for range 3 {
		if got := r.Next(); got != 0 {
			t.Errorf("Next of nil is %#x", got)
		}
		if r.Bit() {
			t.Error("Bit of nil is so")
		}
		if r.Clone() != nil || r.Clone().Clone() != nil {
			t.Error("Clone of nil is not nil")
		}
	}
	for _, n := range slices.Concat(tooFew, noPerms, []int{1, 2, 3, 64, 99999, 100000}) {
		if got := r.Below(n); got != 0 {
			t.Errorf("of nil Below(%d) is %d", n, got)
		}
		if got := r.Perm(n); len(got) != 0 {
			t.Errorf("of nil Perm(%d) has %d numbers", n, len(got))
		}
	}
}

// ask asks a generator all it can be asked, and tells it as one number.
func ask(r *rand.Rand, i int) uint64 {
	s := r.Next() + uint64(r.Below(i+1)) + sum(r.Perm(i%13))
	if r.Bit() {
		s++
	}
	return s + uint64(r.Below(-i)) + r.Clone().Next()
}

// P4.4: two of one seed tell the same, also if they are asked in turns, and beside another one.
func TestSameOfOneSeed(t *testing.T) {
	for _, seed := range seeds() {
		a, b, other := rand.New(seed), rand.New(seed), rand.New(seed+1)
		var first []uint64
		for i := range 40 {
			first = append(first, ask(a, i))
			other.Next()
			if got := ask(b, i); got != first[i] {
				t.Fatalf("two of %#x differ at %d: %#x and %#x", seed, i, first[i], got)
			}
		}
		again := rand.New(seed)
		for i, want := range first {
			if got := ask(again, i); got != want {
				t.Fatalf("of %#x another time %#x comes at %d, not %#x", seed, got, i, want)
			}
		}
	}
}

// P4.4: Perm has each number from 0 on once, of whatever seed.
func TestPermHasEachOnce(t *testing.T) {
	for i, seed := range seeds() {
		r := rand.New(seed)
		for _, n := range []int{0, 1, 2, 3, 4, 5, 63, 64, 65, 255, 256, 257, 1000 + i} {
			eachOnce(t, r.Perm(n), n)
		}
	}
	for _, n := range []int{65535, 65536, 65537, 99999, 100000} {
		eachOnce(t, rand.New(uint64(n)).Perm(n), n)
	}
}

// eachOnce fails if a list is not the numbers below n, each of them once.
func eachOnce(t *testing.T, l []int, n int) {
	t.Helper()
	if len(l) != n {
		t.Fatalf("Perm(%d) has %d numbers", n, len(l))
	}
	there := make([]bool, n)
	for _, x := range l {
		if x < 0 || x >= n || there[x] {
			t.Fatalf("Perm(%d) has %d, or has it twice", n, x)
		}
		there[x] = true
	}
}

// P4.4: each order of a few numbers comes, of some seed.
func TestPermHasEachOrder(t *testing.T) {
	orders := map[[4]int]bool{}
	r := rand.New(0)
	for range 1000 {
		orders[[4]int(r.Perm(4))] = true
	}
	if len(orders) != 24 {
		t.Errorf("%d orders of four numbers came", len(orders))
	}
}

// The rule on memory: each list is new, and the generator keeps none.
func TestMemory(t *testing.T) {
	untouched := rand.New(3)
	want := [][]int{untouched.Perm(20), untouched.Perm(20), untouched.Perm(20)}
	r := rand.New(3)
	first, second := r.Perm(20), r.Perm(20)
	clear(second)
	if !slices.Equal(first, want[0]) {
		t.Errorf("a list that was told became %v, from %v", first, want[0])
	}
	clear(first)
	if got := r.Perm(20); !slices.Equal(got, want[2]) {
		t.Errorf("behind lists that were changed it is %v, want %v", got, want[2])
	}
}

package tri_test

import (
	"math"
	"slices"
	"strings"
	"testing"

	"latchet/api"
	"latchet/lit"
	"latchet/tri"
)

const (
	zero = api.Zero
	one  = api.One
	free = api.Free
)

// Written out by itself, so that a limit that is one off is seen.
const lastLit = 33554433

// values are the three values, in the order of their numbers.
var values = []int{zero, one, free}

// noValues are numbers that are no values.
var noValues = []int{-1, -2, -3, math.MinInt, math.MinInt + 1, 3, 4, 5, 48, 49, 120, 256, 257, 1 << 32, 1<<32 + 1, math.MaxInt - 1, math.MaxInt}

// noLits are numbers that are no literal.
var noLits = []int{-1, -2, -3, -4, math.MinInt, math.MinInt + 1, lastLit + 1, lastLit + 2, 1 << 32, 1<<32 + 2, 1<<32 + 3, math.MaxInt - 1, math.MaxInt}

// numbers are values, and numbers that are none.
func numbers() []int { return slices.Concat(values, noValues) }

// counts is the value as which a number counts.
func counts(a int) int {
	if a < zero || a > free {
		return free
	}
	return a
}

// drawn are words of bits, each with any other one beside it, the edges among them.
func drawn() []tri.Word {
	bits := []uint64{0, 1, 1 << 63, 1<<63 | 1, math.MaxUint64, math.MaxUint64 - 1, math.MaxUint64 >> 1, 0xaaaaaaaaaaaaaaaa, 0x5555555555555555, 0xffffffff, 0xffffffff << 32}
	x := uint64(7)
	for range 12 {
		x = x*6364136223846793005 + 1442695040888963407
		bits = append(bits, x^x>>29)
	}
	var l []tri.Word
	for _, a := range bits {
		for _, b := range bits {
			l = append(l, tri.Word{Ones: a, Zeros: b})
		}
	}
	return l
}

// at is the i-th value of a word, bit by bit.
func at(w tri.Word, i int) int {
	a, b := w.Ones&(1<<i) != 0, w.Zeros&(1<<i) != 0
	switch {
	case a == b:
		return free
	case a:
		return one
	}
	return zero
}

// P3.1: the numbers of the values.
func TestValues(t *testing.T) {
	if zero != 0 || one != 1 || free != 2 {
		t.Error(values)
	}
}

// P3.1: Zero, if one of them is; One, if both are; else Free.
func TestAnd(t *testing.T) {
	for _, x := range []struct{ a, b, want int }{
		{zero, zero, zero}, {zero, one, zero}, {zero, free, zero},
		{one, zero, zero}, {one, one, one}, {one, free, free},
		{free, zero, zero}, {free, one, free}, {free, free, free},
		{zero, 3, zero}, {-1, zero, zero}, {one, 3, free}, {-1, one, free}, {5, -5, free}, {3, 3, free}, {-1, -1, free},
	} {
		if got := tri.And(x.a, x.b); got != x.want {
			t.Errorf("And(%d, %d) = %d, want %d", x.a, x.b, got, x.want)
		}
	}
}

// P3.1: the inverse.
func TestNot(t *testing.T) {
	for _, x := range []struct{ a, want int }{
		{zero, one}, {one, zero}, {free, free}, {3, free}, {-1, free}, {-2, free}, {math.MaxInt, free}, {math.MinInt, free},
	} {
		if got := tri.Not(x.a); got != x.want {
			t.Errorf("Not(%d) = %d, want %d", x.a, got, x.want)
		}
	}
}

// P3.1: what both say; Free and no, if they speak against each other.
func TestJoin(t *testing.T) {
	for _, x := range []struct {
		a, b, want int
		is         bool
	}{
		{zero, zero, zero, true}, {zero, one, free, false}, {zero, free, zero, true},
		{one, zero, free, false}, {one, one, one, true}, {one, free, one, true},
		{free, zero, zero, true}, {free, one, one, true}, {free, free, free, true},
		{zero, 3, zero, true}, {one, -1, one, true}, {7, zero, zero, true}, {-7, one, one, true},
		{free, 3, free, true}, {3, free, free, true}, {3, 3, free, true}, {3, 4, free, true}, {-1, math.MaxInt, free, true},
	} {
		if got, is := tri.Join(x.a, x.b); got != x.want || is != x.is {
			t.Errorf("Join(%d, %d) = %d, %v, want %d, %v", x.a, x.b, got, is, x.want, x.is)
		}
	}
}

// P3.1: whether one is Free, or both are the same.
func TestBelow(t *testing.T) {
	for _, x := range []struct {
		a, b int
		want bool
	}{
		{zero, zero, true}, {zero, one, false}, {zero, free, false},
		{one, zero, false}, {one, one, true}, {one, free, false},
		{free, zero, true}, {free, one, true}, {free, free, true},
		{3, zero, true}, {-1, one, true}, {3, free, true}, {free, 3, true}, {3, 4, true}, {3, 3, true}, {-1, -1, true},
		{zero, 3, false}, {one, 3, false}, {zero, -1, false}, {one, math.MinInt, false},
	} {
		if got := tri.Below(x.a, x.b); got != x.want {
			t.Errorf("Below(%d, %d) = %v, want %v", x.a, x.b, got, x.want)
		}
	}
}

// P3.1: any number that is no value counts as Free, and is never told.
func TestNoValueIsFree(t *testing.T) {
	for _, a := range numbers() {
		if got, want := tri.Not(a), tri.Not(counts(a)); got != want {
			t.Errorf("Not(%d) = %d, want %d", a, got, want)
		}
		for _, b := range numbers() {
			if got, want := tri.And(a, b), tri.And(counts(a), counts(b)); got != want {
				t.Errorf("And(%d, %d) = %d, want %d", a, b, got, want)
			}
			got, is := tri.Join(a, b)
			want, wantIs := tri.Join(counts(a), counts(b))
			if got != want || is != wantIs {
				t.Errorf("Join(%d, %d) = %d, %v, want %d, %v", a, b, got, is, want, wantIs)
			}
			if got, want := tri.Below(a, b), tri.Below(counts(a), counts(b)); got != want {
				t.Errorf("Below(%d, %d) = %v, want %v", a, b, got, want)
			}
		}
	}
}

// P3.2: the values of literals.
func TestLit(t *testing.T) {
	l := []int{one, zero, one, free, -1, 3, math.MinInt, math.MaxInt, one}
	for _, x := range []struct{ x, want int }{
		{0, zero}, {1, one},
		{2, zero}, {3, one}, {4, one}, {5, zero}, {6, free}, {7, free},
		{8, free}, {9, free}, {10, free}, {11, free}, {12, free}, {13, free}, {14, free}, {15, free},
		{16, one}, {17, zero},
		{18, free}, {19, free}, {20, free}, {21, free}, {1 << 20, free}, {lastLit - 1, free}, {lastLit, free},
	} {
		if got := tri.Lit(l, x.x); got != x.want {
			t.Errorf("Lit(%d) = %d, want %d", x.x, got, x.want)
		}
	}
}

// P3.2: the literals 0 and 1 are what they are, whatever is said of the variable 0, and if nothing is.
func TestLitOfNothing(t *testing.T) {
	for _, a := range numbers() {
		for _, l := range [][]int{{a}, {a, a}, {a, one, zero}} {
			if got, not := tri.Lit(l, 0), tri.Lit(l, 1); got != zero || not != one {
				t.Errorf("of %v the literals 0 and 1 are %d and %d", l, got, not)
			}
		}
	}
	for _, l := range [][]int{nil, {}} {
		for x, want := range []int{zero, one, free, free, free, free} {
			if got := tri.Lit(l, x); got != want {
				t.Errorf("Lit(%v, %d) = %d, want %d", l, x, got, want)
			}
		}
	}
}

// P3.2: what is no literal is Free, whatever there is said.
func TestLitOfNoLiteral(t *testing.T) {
	for _, l := range [][]int{nil, {zero}, {one, one}, {zero, zero, zero, zero}, {one, one, one, one}} {
		for _, x := range noLits {
			if got := tri.Lit(l, x); got != free {
				t.Errorf("Lit(%v, %d) = %d", l, x, got)
			}
		}
	}
}

// P3.2: of more values than there are variables those too much have no literal.
func TestLitBeyondLast(t *testing.T) {
	last := lit.Var(lastLit)
	l := make([]int, last+3)
	l[last-1], l[last], l[last+1], l[last+2] = zero, one, one, one
	for _, x := range []struct{ x, want int }{
		{lastLit - 3, zero}, {lastLit - 2, one}, {lastLit - 1, one}, {lastLit, zero},
		{lastLit + 1, free}, {lastLit + 2, free}, {lastLit + 3, free}, {lastLit + 4, free},
	} {
		if got := tri.Lit(l, x.x); got != x.want {
			t.Errorf("Lit(%d) = %d, want %d", x.x, got, x.want)
		}
	}
}

// P3.2: of an inverse it is Not of the value, wherever it stands.
func TestLitOfInverse(t *testing.T) {
	for _, a := range numbers() {
		for v := 1; v < 70; v++ {
			l := make([]int, v+1)
			for i := range l {
				l[i] = tri.Not(counts(a))
			}
			l[v] = a
			if got, not := tri.Lit(l, 2*v), tri.Lit(l, 2*v+1); got != counts(a) || not != tri.Not(a) {
				t.Errorf("variable %d of %d: %d, and %d", v, a, got, not)
			}
		}
	}
}

// P3.3: the word of 64 times a value, no bit of which is in both.
func TestAll(t *testing.T) {
	for _, v := range numbers() {
		w := tri.All(v)
		if w.Ones&w.Zeros != 0 {
			t.Errorf("All(%d) = %x: bits in both", v, w)
		}
		for i := range 64 {
			if got := tri.At(w, i); got != counts(v) || at(w, i) != counts(v) {
				t.Errorf("of All(%d) the value %d is %d", v, i, got)
			}
		}
	}
}

// P3.3: of a word's bits at one place there are four kinds.
func TestAt(t *testing.T) {
	for _, i := range []int{0, 1, 2, 31, 32, 33, 62, 63} {
		bit := uint64(1) << i
		for _, x := range []struct {
			w    tri.Word
			want int
		}{
			{tri.Word{Ones: bit}, one}, {tri.Word{Zeros: bit}, zero}, {tri.Word{Ones: bit, Zeros: bit}, free}, {tri.Word{}, free},
			{tri.Word{Ones: math.MaxUint64, Zeros: ^bit}, one}, {tri.Word{Ones: ^bit, Zeros: math.MaxUint64}, zero},
			{tri.Word{Ones: ^bit, Zeros: ^bit}, free}, {tri.Word{Ones: math.MaxUint64, Zeros: math.MaxUint64}, free},
			{tri.Word{Ones: ^bit}, free}, {tri.Word{Zeros: ^bit}, free},
			{tri.Word{Ones: bit, Zeros: ^bit}, one}, {tri.Word{Ones: ^bit, Zeros: bit}, zero},
		} {
			if got := tri.At(x.w, i); got != x.want {
				t.Errorf("At(%x, %d) = %d, want %d", x.w, i, got, x.want)
			}
		}
	}
}

// P3.3: of drawn words each place's value is that of its two bits.
func TestAtOfDrawn(t *testing.T) {
	for _, w := range drawn() {
		for i := range 64 {
			if got := tri.At(w, i); got != at(w, i) {
				t.Errorf("At(%x, %d) = %d", w, i, got)
			}
		}
	}
}

// P3.3: below the 0th and above the 63rd there is nothing said.
func TestAtNoPlace(t *testing.T) {
	for _, i := range []int{-1, -2, -63, -64, -65, math.MinInt, 64, 65, 127, 128, 256, 1 << 32, math.MaxInt} {
		for _, w := range append(drawn(), tri.All(zero), tri.All(one)) {
			if got := tri.At(w, i); got != free {
				t.Errorf("At(%x, %d) = %d", w, i, got)
			}
		}
	}
}

// P3.3: Not, value by value, without bits in both.
func TestNotWord(t *testing.T) {
	for _, w := range drawn() {
		got := tri.NotWord(w)
		if got.Ones&got.Zeros != 0 {
			t.Errorf("NotWord(%x) = %x: bits in both", w, got)
		}
		for i := range 64 {
			if at(got, i) != tri.Not(at(w, i)) {
				t.Errorf("NotWord(%x) = %x: value %d", w, got, i)
			}
		}
	}
}

// P3.3: And, value by value, without bits in both.
func TestAndWord(t *testing.T) {
	l := drawn()
	for k, a := range l {
		for j := k % 3; j < len(l); j += 3 {
			b := l[j]
			got := tri.AndWord(a, b)
			if got.Ones&got.Zeros != 0 {
				t.Fatalf("AndWord(%x, %x) = %x: bits in both", a, b, got)
			}
			for i := range 64 {
				if at(got, i) != tri.And(at(a, i), at(b, i)) {
					t.Fatalf("AndWord(%x, %x) = %x: value %d", a, b, got, i)
				}
			}
		}
	}
}

// P3.3: all pairs of two bits, at the lowest bit and at the highest one.
func TestWordPairs(t *testing.T) {
	for _, i := range []int{0, 63} {
		for k := range 16 {
			a := tri.Word{Ones: uint64(k&1) << i, Zeros: uint64(k>>1&1) << i}
			b := tri.Word{Ones: uint64(k>>2&1) << i, Zeros: uint64(k>>3&1) << i}
			if got, want := tri.At(tri.AndWord(a, b), i), tri.And(at(a, i), at(b, i)); got != want {
				t.Errorf("AndWord(%x, %x) is %d at %d, want %d", a, b, got, i, want)
			}
			if got, want := tri.At(tri.NotWord(a), i), tri.Not(at(a, i)); got != want {
				t.Errorf("NotWord(%x) is %d at %d, want %d", a, got, i, want)
			}
		}
	}
}

// P3.4: 0, 1 or x of each value.
func TestText(t *testing.T) {
	for _, x := range []struct {
		l    []int
		want string
	}{
		{nil, ""}, {[]int{}, ""}, {[]int{zero}, "0"}, {[]int{one}, "1"}, {[]int{free}, "x"},
		{[]int{zero, one, free}, "01x"}, {[]int{free, free, one, zero, one}, "xx101"},
		{[]int{3, one, -1, zero, math.MinInt, math.MaxInt}, "x1x0xx"},
	} {
		if got := tri.Text(x.l); got != x.want {
			t.Errorf("Text(%v) = %q, want %q", x.l, got, x.want)
		}
	}
	if got, want := tri.Text(noValues), strings.Repeat("x", len(noValues)); got != want {
		t.Errorf("Text(%v) = %q", noValues, got)
	}
}

// P3.4: what is read.
func TestRead(t *testing.T) {
	for _, x := range []struct {
		s    string
		want []int
	}{
		{"", nil}, {"0", []int{zero}}, {"1", []int{one}}, {"x", []int{free}},
		{"01x", []int{zero, one, free}}, {"xx101", []int{free, free, one, zero, one}},
	} {
		if got, e := tri.Read(x.s); !slices.Equal(got, x.want) || e != api.OK {
			t.Errorf("Read(%q) = %v, %d, want %v", x.s, got, e, x.want)
		}
	}
}

// P3.4: of all bytes just three are signs, wherever they stand.
func TestReadSigns(t *testing.T) {
	for b := range 256 {
		sign := string([]byte{byte(b)})
		want := strings.Index("01x", sign)
		for _, ahead := range []string{"", "0", "1", "x", "x01", strings.Repeat("1", 100)} {
			for _, behind := range []string{"", "0", "1", "x", "10x"} {
				s := ahead + sign + behind
				got, e := tri.Read(s)
				if want < 0 && (len(got) != 0 || e != api.ErrForm) {
					t.Errorf("Read(%q) = %v, %d", s, got, e)
				}
				if want >= 0 && (len(got) != len(s) || got[len(ahead)] != want || e != api.OK) {
					t.Errorf("Read(%q) = %v, %d", s, got, e)
				}
			}
		}
	}
}

// P3.4: what is no values' text.
func TestReadWrong(t *testing.T) {
	for _, s := range []string{
		" ", "\n", "2", "X", "-", "?", "\x00", "\x01", "\x02", "\xff", "01x\n", "\n01x", " 01x", "01x ", "0 1", "0,1", "01X", "012", "10-1", "x\x00x",
		"é", "０", "x́", strings.Repeat("x", 100000) + "y", strings.Repeat("2", 100000),
	} {
		if got, e := tri.Read(s); len(got) != 0 || e != api.ErrForm {
			t.Errorf("Read(%.40q) = %.40v, %d", s, got, e)
		}
	}
}

// P3.4: Read of Text is the values, and Text of Read the text, of all lists of up to seven.
func TestReadOfText(t *testing.T) {
	last := [][]int{nil}
	for range 7 {
		var next [][]int
		for _, l := range last {
			for _, v := range values {
				next = append(next, append(slices.Clone(l), v))
			}
		}
		for _, l := range next {
			s := tri.Text(l)
			got, e := tri.Read(s)
			if !slices.Equal(got, l) || e != api.OK || tri.Text(got) != s || len(s) != len(l) {
				t.Errorf("Read(%q) = %v, %d, want %v", s, got, e, l)
			}
		}
		last = next
	}
}

// P3.5: And and Not of values that say more say no less.
func TestSaysNoLess(t *testing.T) {
	for _, a := range numbers() {
		for _, b := range numbers() {
			if !tri.Below(a, b) {
				continue
			}
			if !tri.Below(tri.Not(a), tri.Not(b)) {
				t.Errorf("Not(%d) is not below Not(%d)", a, b)
			}
			for _, c := range numbers() {
				if !tri.Below(tri.And(a, c), tri.And(b, c)) || !tri.Below(tri.And(c, a), tri.And(c, b)) {
					t.Errorf("And of %d is not below that of %d, with %d", a, b, c)
				}
			}
		}
	}
}

// P3.5: what is said of open values is so, however they are closed.
func TestSaysWhatIsSo(t *testing.T) {
	for _, a := range values {
		for _, b := range values {
			for _, x := range []int{zero, one} {
				for _, y := range []int{zero, one} {
					if tri.Below(a, x) && tri.Below(b, y) && !tri.Below(tri.And(a, b), x*y) {
						t.Errorf("And(%d, %d) speaks against %d and %d", a, b, x, y)
					}
				}
			}
		}
	}
}

// P3.5: likewise 64 at once.
func TestWordSaysNoLess(t *testing.T) {
	for _, w := range drawn() {
		more := w
		more.Ones, more.Zeros = w.Ones&^w.Zeros, w.Zeros&^w.Ones
		more.Ones |= ^(more.Ones | more.Zeros) & 0x123456789abcdef0
		for _, c := range []tri.Word{tri.All(zero), tri.All(one), tri.All(free), {Ones: 0xff00ff00ff00ff00, Zeros: 0x0ff00ff00ff00ff0}} {
			for i := range 64 {
				if !tri.Below(tri.At(w, i), tri.At(more, i)) {
					t.Fatalf("%x is not below %x at %d", w, more, i)
				}
				if !tri.Below(tri.At(tri.NotWord(w), i), tri.At(tri.NotWord(more), i)) || !tri.Below(tri.At(tri.AndWord(w, c), i), tri.At(tri.AndWord(more, c), i)) {
					t.Errorf("%x says more than %x at %d", w, more, i)
				}
			}
		}
	}
}

// The rule on memory: what is handed in is not changed, its spare room included, and what is answered is new.
func TestMemory(t *testing.T) {
	room := append(make([]int, 0, 12), zero, one, 7, free, -1, 9, 9)
	before := slices.Clone(room)
	l := room[:5]
	text := tri.Text(l)
	for x := range 12 {
		tri.Lit(l, x)
	}
	if !slices.Equal(room, before) {
		t.Errorf("%v is changed: %v", before, room)
	}
	got, _ := tri.Read(text)
	again, _ := tri.Read(text)
	for i := range again {
		again[i] = -100
	}
	if !slices.Equal(got, []int{zero, one, free, free, free}) || text != "01xxx" {
		t.Errorf("Read shares its answer: %v of %q", got, text)
	}
}

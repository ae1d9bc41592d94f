package score_test

import (
	"math"
	"math/big"
	"slices"
	"strings"
	"testing"

	"latchet/api"
	"latchet/score"
)

// The bits of some scores, written out so that no compiler makes them.
const (
	negZero   = 0x8000000000000000
	posInf    = 0x7ff0000000000000
	negInf    = 0xfff0000000000000
	greatest  = 0x7fefffffffffffff
	highest   = 0x54b249ad2594c37d // 1e100
	lowFactor = 0x2b2bff2ee48e0530 // 1e-100
	nanText   = "7ff8000000000001"
)

// noNumbers are bits of scores that are no number, of either sign, quiet and not.
var noNumbers = []uint64{
	0x7ff8000000000001, 0x7ff8000000000000, 0x7ff8000000000002, 0x7ff0000000000001, 0x7ff7ffffffffffff, 0x7fffffffffffffff,
	0xfff8000000000001, 0xfff8000000000000, 0xfff0000000000001, 0xfff7ffffffffffff, 0xffffffffffffffff,
}

// ladder is the order: rows of bits, alike in a row, and each row behind the one above it; beside each the Key.
var ladder = []struct {
	key  uint64
	bits []uint64
}{
	{0, noNumbers},
	{0x000fffffffffffff, []uint64{negInf}},
	{0x0010000000000000, []uint64{0xffefffffffffffff}}, // the least number
	{0x0010000000000001, []uint64{0xffeffffffffffffe}},
	{0x2b4db652da6b3c81, []uint64{0xd4b249ad2594c37e}},
	{0x2b4db652da6b3c82, []uint64{0xd4b249ad2594c37d}}, // -1e100
	{0x3fffffffffffffff, []uint64{0xc000000000000000}}, // -2
	{0x400fffffffffffff, []uint64{0xbff0000000000000}}, // -1
	{0x401fffffffffffff, []uint64{0xbfe0000000000000}}, // -0.5
	{0x7fefffffffffffff, []uint64{0x8010000000000000}},
	{0x7ff0000000000000, []uint64{0x800fffffffffffff}},
	{0x7ffffffffffffffd, []uint64{0x8000000000000002}},
	{0x7ffffffffffffffe, []uint64{0x8000000000000001}}, // the nearest to 0
	{0x8000000000000000, []uint64{negZero, 0}},
	{0x8000000000000001, []uint64{0x0000000000000001}},
	{0x8000000000000002, []uint64{0x0000000000000002}},
	{0x800fffffffffffff, []uint64{0x000fffffffffffff}},
	{0x8010000000000000, []uint64{0x0010000000000000}},
	{0xab2bff2ee48e0530, []uint64{lowFactor}},
	{0xbfb999999999999a, []uint64{0x3fb999999999999a}}, // 0.1
	{0xbfe0000000000000, []uint64{0x3fe0000000000000}}, // 0.5
	{0xbff0000000000000, []uint64{0x3ff0000000000000}}, // 1
	{0xbff0000000000001, []uint64{0x3ff0000000000001}},
	{0xc000000000000000, []uint64{0x4000000000000000}}, // 2
	{0xd4b249ad2594c37d, []uint64{highest}},
	{0xd4b249ad2594c37e, []uint64{0x54b249ad2594c37e}},
	{0xffeffffffffffffe, []uint64{0x7feffffffffffffe}},
	{0xffefffffffffffff, []uint64{greatest}},
	{0xfff0000000000000, []uint64{posInf}},
}

// of is the score of bits.
func of(bits uint64) float64 { return math.Float64frombits(bits) }

// all are the scores of bits.
func all(bits ...uint64) []float64 {
	var l []float64
	for _, b := range bits {
		l = append(l, of(b))
	}
	return l
}

// bitsOf are the bits of scores.
func bitsOf(l []float64) []uint64 {
	var bits []uint64
	for _, x := range l {
		bits = append(bits, math.Float64bits(x))
	}
	return bits
}

// isNaN tells by its bits whether a score is no number.
func isNaN(x float64) bool { return math.Float64bits(x)&^uint64(negZero) > posInf }

// same tells whether two scores have the same bits, or are both no number.
func same(a, b float64) bool {
	return isNaN(a) && isNaN(b) || math.Float64bits(a) == math.Float64bits(b)
}

// drawn are scores of all kinds: those of the ladder, and some of drawn bits.
func drawn() []float64 {
	var l []float64
	for _, row := range ladder {
		l = append(l, all(row.bits...)...)
	}
	x := uint64(11)
	for i := range 150 {
		x = x*6364136223846793005 + 1442695040888963407
		bits := x ^ x>>29
		// Each second one lies near 1, where sums and quotients are rounded.
		if i%2 == 1 {
			bits = bits&0x803fffffffffffff | 0x3fc0000000000000
		}
		l = append(l, of(bits))
	}
	return l
}

// finite are the scores among some that are numbers, and not infinite.
func finite(l []float64) []float64 {
	var some []float64
	for _, x := range l {
		if math.Float64bits(x)&posInf != posInf {
			some = append(some, x)
		}
	}
	return some
}

// exact is a score as a quotient of numbers of any length.
func exact(x float64) *big.Rat { return new(big.Rat).SetFloat64(x) }

// rounded is the score next to a quotient; a zero has the sign that is handed in.
func rounded(x *big.Rat, below bool) float64 {
	f, _ := x.Float64()
	if f == 0 && below {
		return of(negZero)
	}
	return f
}

// below tells by its bits whether a score has the sign of those below 0.
func below(x float64) bool { return math.Float64bits(x)>>63 == 1 }

// P5.1: keys that were worked out by another program.
func TestKey(t *testing.T) {
	for _, row := range ladder {
		for _, bits := range row.bits {
			if got := score.Key(of(bits)); got != row.key {
				t.Errorf("Key of %#x is %#x, want %#x", bits, got, row.key)
			}
		}
	}
}

// P5.1: a number's key lies as far from that of 0 as there are numbers between, a step more below.
func TestKeyCounts(t *testing.T) {
	for _, x := range drawn() {
		want := uint64(1)<<63 + math.Float64bits(math.Abs(x))
		switch {
		case isNaN(x):
			want = 0
		case x < 0:
			want = uint64(1)<<63 - 1 - math.Float64bits(math.Abs(x))
		}
		if got := score.Key(x); got != want {
			t.Errorf("Key of %v is %#x, want %#x", x, got, want)
		}
	}
}

// P5.1: each row of the ladder is ahead of those behind it, and no two of a row are.
func TestLess(t *testing.T) {
	for i, row := range ladder {
		for j, other := range ladder {
			for _, a := range row.bits {
				for _, b := range other.bits {
					if got := score.Less(of(a), of(b)); got != (i < j) {
						t.Errorf("Less of %#x and %#x is %t", a, b, got)
					}
				}
			}
		}
	}
}

// P5.1: numbers stand as they do when they are of any length.
func TestLessIsExact(t *testing.T) {
	l := finite(drawn())
	for _, a := range l {
		for _, b := range l {
			if got, want := score.Less(a, b), exact(a).Cmp(exact(b)) < 0; got != want {
				t.Fatalf("Less of %v and %v is %t", a, b, got)
			}
		}
	}
}

// P5.1: the document's examples.
func TestLessExamples(t *testing.T) {
	if !score.Less(math.NaN(), math.Inf(-1)) || !score.Less(-1, 0) || score.Less(of(negZero), 0) || score.Less(0, of(negZero)) {
		t.Error("an example is not so")
	}
}

// P5.1: the place of the last one in order, of those that are alike the first.
func TestMost(t *testing.T) {
	for _, x := range []struct {
		bits []uint64
		want int
	}{
		{nil, -1},
		{[]uint64{}, -1},
		{[]uint64{0}, 0},
		{[]uint64{negInf}, 0},
		{[]uint64{noNumbers[0]}, 0},
		{noNumbers, 0},
		{[]uint64{noNumbers[3], noNumbers[6], negInf}, 2},
		{[]uint64{negInf, noNumbers[0], noNumbers[1]}, 0},
		{[]uint64{negInf, negInf}, 0},
		{[]uint64{posInf, posInf, greatest}, 0},
		{[]uint64{greatest, posInf, noNumbers[0], posInf}, 1},
		{[]uint64{negZero, 0}, 0},
		{[]uint64{0, negZero}, 0},
		{[]uint64{0x8000000000000001, negZero, 0, negZero}, 1},
		{[]uint64{0x8000000000000001, 0, 1, 1}, 2},
		{[]uint64{0xc000000000000000, 0xbff0000000000000, 0xc000000000000000}, 1},
		{[]uint64{0x3ff0000000000000, 0x4000000000000000, 0x3ff0000000000000, 0x4000000000000000}, 1},
		{[]uint64{0x3ff0000000000000, 0x3ff0000000000000, 0x3ff0000000000000}, 0},
		{[]uint64{noNumbers[2], 0x3ff0000000000000, noNumbers[0], 0x3ff0000000000001}, 3},
	} {
		if got := score.Most(all(x.bits...)); got != x.want {
			t.Errorf("Most of %x is %d, want %d", x.bits, got, x.want)
		}
	}
}

// P5.1: none is behind the one that is told, and none ahead of its place is like it.
func TestMostIsFirstOfLast(t *testing.T) {
	l := drawn()
	for from := range l {
		for _, many := range []int{1, 2, 3, 7, 20} {
			part := l[from:min(from+many, len(l))]
			at := score.Most(part)
			for i, x := range part {
				key, most := score.Key(x), score.Key(part[at])
				if key > most || key == most && i < at {
					t.Fatalf("Most of %v is %d, not %d", part, at, i)
				}
			}
		}
	}
}

// P5.2: sums that were worked out by another program.
func TestBump(t *testing.T) {
	for _, x := range []struct{ x, by, want uint64 }{
		{0, 0, 0},
		{0x3ff0000000000000, 0x4000000000000000, 0x4008000000000000},
		{0x3fb999999999999a, 0x3fc999999999999a, 0x3fd3333333333334}, // 0.1 and 0.2
		{0x4341c37937e08000, 0x3ff0000000000000, 0x4341c37937e08000}, // 1e16 and 1
		{0x4340000000000000, 0x3ff0000000000000, 0x4340000000000000}, // half is rounded to the even one
		{0x4340000000000001, 0x3ff0000000000000, 0x4340000000000002},
		{1, 1, 2},
		{0x3ff0000000000000, 0xbff0000000000000, 0},
		{negZero, negZero, negZero},
		{negZero, 0, 0},
		{0, negZero, 0},
		{greatest, greatest, posInf},
		{0xffefffffffffffff, 0xffefffffffffffff, negInf},
		{greatest, 0x3ff0000000000000, greatest},
		{posInf, 0xffefffffffffffff, posInf},
		{posInf, posInf, posInf},
		{negInf, greatest, negInf},
		{negInf, negInf, negInf},
		{posInf, negInf, 0},
		{negInf, posInf, 0},
	} {
		if got := score.Bump(of(x.x), of(x.by)); math.Float64bits(got) != x.want {
			t.Errorf("Bump of %#x by %#x is %#x, want %#x", x.x, x.by, math.Float64bits(got), x.want)
		}
	}
}

// P5.2: what is no number makes 0, not -0, whatever it is added to.
func TestBumpNoNumber(t *testing.T) {
	for _, bits := range noNumbers {
		for _, x := range drawn() {
			if a, b := score.Bump(of(bits), x), score.Bump(x, of(bits)); math.Float64bits(a) != 0 || math.Float64bits(b) != 0 {
				t.Errorf("Bump of %#x and %v is %v, and %v", bits, x, a, b)
			}
		}
	}
}

// P5.2: numbers' sums are rounded once, from what they are at any length.
func TestBumpIsExact(t *testing.T) {
	l := finite(drawn())
	for _, x := range l {
		for _, by := range l {
			want := rounded(new(big.Rat).Add(exact(x), exact(by)), below(x) && below(by))
			if got := score.Bump(x, by); !same(got, want) {
				t.Fatalf("Bump of %v by %v is %v, want %v", x, by, got, want)
			}
		}
	}
}

// P5.2: quotients that were worked out by another program.
func TestGrow(t *testing.T) {
	for _, x := range []struct{ by, decay, want uint64 }{
		{0x3ff0000000000000, 0x3fe0000000000000, 0x4000000000000000}, // 1 by 0.5
		{0x3ff0000000000000, 0x3fee666666666666, 0x3ff0d79435e50d79}, // 1 by 0.95
		{0x3ff0000000000000, 0x3fb999999999999a, 0x4024000000000000}, // 1 by 0.1
		{0x54b249ad2594c37d, 0x3fee666666666666, 0x54b3401493593991}, // 1e100 by 0.95
		{0xbff0000000000000, 0x3fe0000000000000, 0xc000000000000000},
		{0, 0x3fe0000000000000, 0},
		{negZero, 0x3fe0000000000000, negZero},
		{1, 0x3fe8000000000000, 1},
		{1, 0x3fe0000000000000, 2},
		{0x3ff0000000000000, 0x3fefffffffffffff, 0x3ff0000000000001}, // the last one below 1
		{1, 1, 0x3ff0000000000000},                                   // by the first one above 0
		{0xffcfffffffffffff, 0x3fd0000000000000, 0xffefffffffffffff},
		{0x7fdfffffffffffff, 0x3fe0000000000000, greatest},
	} {
		if got := score.Grow(of(x.by), of(x.decay)); math.Float64bits(got) != x.want {
			t.Errorf("Grow of %#x by %#x is %#x, want %#x", x.by, x.decay, math.Float64bits(got), x.want)
		}
	}
}

// P5.2: by a decay that is not between 0 and 1 nothing grows.
func TestGrowNot(t *testing.T) {
	decays := all(0, negZero, 0x3ff0000000000000, 0x3ff0000000000001, 0x4000000000000000, greatest, posInf, negInf,
		0x8000000000000001, 0xbfe0000000000000, 0xbff0000000000000, 0xc000000000000000, 0xffefffffffffffff)
	for _, decay := range slices.Concat(decays, all(noNumbers...)) {
		for _, by := range drawn() {
			if got := score.Grow(by, decay); !same(got, by) {
				t.Errorf("Grow of %v by %v is %v", by, decay, got)
			}
		}
	}
}

// P5.2: nor does what is infinite, or no number, or would become so.
func TestGrowTooHigh(t *testing.T) {
	for _, x := range []struct{ by, decay uint64 }{
		{greatest, 0x3fe0000000000000},
		{greatest, 0x3fefffffffffffff},
		{0xffefffffffffffff, 0x3fefffffffffffff},
		{0x7fe0000000000000, 0x3fe0000000000000},
		{0xffe0000000000000, 0x3fe0000000000000},
		{0x3ff0000000000000, 1},
		{0xbff0000000000000, 1},
		{highest, 0x000fffffffffffff},
		{posInf, 0x3fe0000000000000},
		{negInf, 0x3fe0000000000000},
		{posInf, 1},
		{negInf, 0x3fefffffffffffff},
	} {
		if got := score.Grow(of(x.by), of(x.decay)); math.Float64bits(got) != x.by {
			t.Errorf("Grow of %#x by %#x is %v", x.by, x.decay, got)
		}
	}
	for _, bits := range noNumbers {
		for _, decay := range all(1, 0x3fe0000000000000, 0x3fefffffffffffff) {
			if got := score.Grow(of(bits), decay); !isNaN(got) {
				t.Errorf("Grow of %#x by %v is %v", bits, decay, got)
			}
		}
	}
}

// P5.2: quotients are rounded once, from what they are at any length.
func TestGrowIsExact(t *testing.T) {
	l := finite(drawn())
	for _, by := range l {
		for _, decay := range l {
			want := by
			if decay > 0 && decay < 1 {
				want = rounded(new(big.Rat).Quo(exact(by), exact(decay)), below(by))
			}
			if math.IsInf(want, 0) {
				want = by
			}
			if got := score.Grow(by, decay); !same(got, want) {
				t.Fatalf("Grow of %v by %v is %v, want %v", by, decay, got, want)
			}
		}
	}
}

// P5.2: products that were worked out by another program, of lists with a score above 1e100.
func TestScale(t *testing.T) {
	for _, x := range []struct{ bits, want []uint64 }{
		{[]uint64{0x54b249ad2594c37e}, []uint64{0x3ff0000000000001}}, // the first one above 1e100
		{
			[]uint64{0x3ff0000000000000, 0x4000000000000000, 0x4008000000000000, 0xbff0000000000000, greatest, 0xffefffffffffffff},
			[]uint64{lowFactor, 0x2b3bff2ee48e0530, 0x2b44ff632b6a83e4, 0xab2bff2ee48e0530, 0x6b2bff2ee48e052f, 0xeb2bff2ee48e052f},
		},
		{[]uint64{greatest, highest, 0, negZero}, []uint64{0x6b2bff2ee48e052f, 0x3ff0000000000000, 0, negZero}},
		{[]uint64{1, 0x8000000000000001, greatest}, []uint64{0, negZero, 0x6b2bff2ee48e052f}}, // too near to 0
		{[]uint64{posInf}, []uint64{0}},
		{[]uint64{negInf, 0x3ff0000000000000, posInf}, []uint64{0, lowFactor, 0}},
		{[]uint64{negInf, greatest}, []uint64{0, 0x6b2bff2ee48e052f}},
		{append([]uint64{greatest}, noNumbers...), append([]uint64{0x6b2bff2ee48e052f}, make([]uint64, len(noNumbers))...)},
	} {
		if got := bitsOf(score.Scale(all(x.bits...))); !slices.Equal(got, x.want) {
			t.Errorf("Scale of %x is %x, want %x", x.bits, got, x.want)
		}
	}
}

// P5.2: a list without a score above 1e100 is as it was, bit by bit.
func TestScaleNot(t *testing.T) {
	for _, bits := range [][]uint64{
		nil,
		{},
		{0},
		{negZero},
		{highest},
		{0xd4b249ad2594c37e},
		{0xffefffffffffffff},
		{negInf},
		{negZero, 0, 0x3ff0000000000000, highest, highest, negInf, 0xffefffffffffffff, 1, 0x8000000000000001},
	} {
		if got := bitsOf(score.Scale(all(bits...))); !slices.Equal(got, bits) {
			t.Errorf("Scale of %x is %x", bits, got)
		}
	}
	for _, l := range [][]float64{all(noNumbers...), append(all(noNumbers...), 1, math.Inf(-1)), append(all(negInf, highest), all(noNumbers...)...)} {
		if got := score.Scale(l); !slices.EqualFunc(got, l, same) {
			t.Errorf("Scale of %v is %v", l, got)
		}
	}
}

// P5.2: wherever the high one stands, all others are scaled, and each product is rounded once.
func TestScaleIsExact(t *testing.T) {
	factor := exact(of(lowFactor))
	l := drawn()
	var low, scaled []float64
	for _, x := range l {
		if x > 1e100 {
			continue
		}
		low = append(low, x)
		want := 0.0
		if len(finite([]float64{x})) == 1 {
			want = rounded(new(big.Rat).Mul(exact(x), factor), below(x))
		}
		scaled = append(scaled, want)
	}
	for at := range len(low) + 1 {
		got := score.Scale(slices.Insert(slices.Clone(low), at, of(greatest)))
		want := slices.Insert(slices.Clone(scaled), at, of(0x6b2bff2ee48e052f))
		if !slices.Equal(bitsOf(got), bitsOf(want)) {
			t.Fatalf("with the greatest at %d Scale is %v, want %v", at, got, want)
		}
	}
	if got := score.Scale(low); !slices.EqualFunc(got, low, same) {
		t.Errorf("Scale of %v is %v", low, got)
	}
}

// P5.2 and the rule on memory: Scale's list is new, and what is handed in is not changed, its spare room included.
func TestScaleMemory(t *testing.T) {
	for _, bits := range [][]uint64{{0x3ff0000000000000, greatest, negZero, 5}, {0x3ff0000000000000, 0x4000000000000000, negZero, 5}} {
		room := all(bits...)
		l := room[:2]
		got := score.Scale(l)
		if !slices.Equal(bitsOf(room), bits) {
			t.Errorf("Scale changed %x to %x", bits, bitsOf(room))
		}
		clear(got[:cap(got)])
		if !slices.Equal(bitsOf(room), bits) {
			t.Errorf("an answer of Scale is shared with %x", bits)
		}
		if other := score.Scale(l); len(other) != 2 || other[0] == 0 {
			t.Errorf("Scale of %x is %v another time", bits[:2], other)
		}
		score.Most(l)
		if !slices.Equal(bitsOf(room), bits) {
			t.Errorf("Most changed %x to %x", bits, bitsOf(room))
		}
	}
	room := []float64{1, 2}
	if got := append(score.Scale(room[:0]), 9); room[0] != 1 || got[0] != 9 {
		t.Errorf("an empty answer of Scale is shared with %v", room)
	}
}

// texts are bits, and the texts that another program made of them.
var texts = []struct {
	bits uint64
	text string
}{
	{0, "0000000000000000"},
	{negZero, "8000000000000000"},
	{1, "0000000000000001"},
	{0x8000000000000001, "8000000000000001"},
	{0x0123456789abcdef, "0123456789abcdef"},
	{0xfedcba9876543210, "fedcba9876543210"},
	{0x3ff0000000000000, "3ff0000000000000"},
	{0xbff0000000000000, "bff0000000000000"},
	{0x3fb999999999999a, "3fb999999999999a"},
	{highest, "54b249ad2594c37d"},
	{greatest, "7fefffffffffffff"},
	{0xffefffffffffffff, "ffefffffffffffff"},
	{posInf, "7ff0000000000000"},
	{negInf, "fff0000000000000"},
	{0x7ff8000000000001, nanText},
}

// P5.3: the bits in digits, those of -0 told from those of 0.
func TestText(t *testing.T) {
	for _, x := range texts {
		if got := score.Text(of(x.bits)); got != x.text {
			t.Errorf("Text of %#x is %q, want %q", x.bits, got, x.text)
		}
	}
	for _, bits := range noNumbers {
		if got := score.Text(of(bits)); got != nanText {
			t.Errorf("Text of %#x is %q", bits, got)
		}
	}
}

// P5.3: the score of a text.
func TestRead(t *testing.T) {
	for _, x := range texts {
		got, e := score.Read(x.text)
		if math.Float64bits(got) != x.bits || e != api.OK {
			t.Errorf("Read of %q is %#x, %v, want %#x", x.text, math.Float64bits(got), e, x.bits)
		}
	}
}

// wrong are texts of no score.
func wrong() []string {
	l := []string{
		"", "0", "-0", "1", "1.5", "NaN", "Inf", "-Inf", "x",
		"000000000000000", "00000000000000000", "3ff000000000000", "3ff00000000000000", "03ff0000000000000", "0000000000000000\x00",
		"3FF0000000000000", "BFF0000000000000", "3fB999999999999a", "3fb999999999999A", "7FF8000000000001", "7fF8000000000001",
		"+ff0000000000000", "-ff0000000000000", "+000000000000000", "-000000000000000", "0x00000000000000", "0X3ff00000000000", "0x3ff0000000000000",
		" 3ff000000000000", "3ff000000000000 ", "3ff0000000000000 ", " 3ff0000000000000", "3ff0000000000000\n", "3ff00000_0000000", "3_f_f_0_0_0_0_0_",
		"3ff000000000000g", "gff0000000000000", "3ff0000000000/00", "3ff0000000000:00", "3ff0000000000`00", "3ff0000000000@00", "3ff000000.000000", "1p00000000000000",
		"3ff000000000000\x00", "\x00ff0000000000000", "3ff000000000000\xff", "3ff00000000000é", "3ff000000000000é",
		strings.Repeat("0", 32), strings.Repeat("0", 1<<20), strings.Repeat("f", 16), strings.Repeat("F", 16), strings.Repeat("é", 16), strings.Repeat("g", 1<<20),
	}
	for _, bits := range noNumbers[1:] {
		l = append(l, hex(bits))
	}
	return l
}

// hex is bits in digits, nibble by nibble.
func hex(bits uint64) string {
	text := ""
	for range 16 {
		text = string("0123456789abcdef"[bits&15]) + text
		bits >>= 4
	}
	return text
}

// P5.3: texts of other lengths, signs, letters, and of a NaN's other bits are no score's.
func TestReadWrong(t *testing.T) {
	for _, s := range wrong() {
		if got, e := score.Read(s); math.Float64bits(got) != 0 || e != api.ErrForm {
			t.Errorf("Read of %.40q is %v, %v", s, got, e)
		}
	}
}

// P5.3: at each place of a text just the sixteen digits will do; none of them makes this one a NaN's.
func TestReadDigits(t *testing.T) {
	for at := range 16 {
		for b := range 256 {
			text := []byte("3ff0000000000000")
			text[at] = byte(b)
			_, e := score.Read(string(text))
			want := api.ErrForm
			if b >= '0' && b <= '9' || b >= 'a' && b <= 'f' {
				want = api.OK
			}
			if e != want {
				t.Errorf("Read of %q is %v, want %v", text, e, want)
			}
		}
	}
}

// P5.4: one is ahead of another one just if its key is less.
func TestLessIsByKey(t *testing.T) {
	l := drawn()
	for _, a := range l {
		for _, b := range l {
			if got, want := score.Less(a, b), score.Key(a) < score.Key(b); got != want {
				t.Fatalf("Less of %v and %v is %t, by their keys %t", a, b, got, want)
			}
		}
	}
}

// P5.4: a score comes back from its text, bit by bit, NaN as NaN; and a text that is read is the score's.
func TestReadOfText(t *testing.T) {
	for _, x := range drawn() {
		text := score.Text(x)
		if !isNaN(x) && text != hex(math.Float64bits(x)) {
			t.Errorf("Text of %v is %q", x, text)
		}
		got, e := score.Read(text)
		if !same(got, x) || e != api.OK {
			t.Errorf("Read of Text of %v is %v, %v", x, got, e)
		}
		if again := score.Text(got); again != text {
			t.Errorf("Text of Read of %q is %q", text, again)
		}
	}
}

// P5.2 by the document's examples.
func TestExamples(t *testing.T) {
	if got := score.Bump(math.Inf(1), math.Inf(-1)); got != 0 {
		t.Errorf("Bump is %v", got)
	}
	if got := score.Grow(1, 0.5); got != 2 {
		t.Errorf("Grow is %v", got)
	}
	if got := score.Grow(1, math.NaN()); got != 1 {
		t.Errorf("Grow is %v", got)
	}
}

package lit_test

import (
	"math"
	"slices"
	"strconv"
	"strings"
	"testing"

	"latchet/api"
	"latchet/lit"
)

// Written out by itself, so that a limit that is one off is seen.
const (
	lastVar = 16777216
	lastLit = 33554433
)

// noVars are numbers that are no variable.
var noVars = []int{
	-1, -2, -3, -lastVar, math.MinInt / 2, math.MinInt,
	lastVar + 1, lastVar + 2, 2 * lastVar, lastLit, 1 << 32, 1 << 62, math.MaxInt/2 + 1, math.MaxInt,
}

// noLits are numbers that are no literal.
var noLits = []int{
	-1, -2, -3, -4, -lastLit, math.MinInt, math.MinInt + 1,
	lastLit + 1, lastLit + 2, lastLit + 3, 2 * lastLit, 1 << 32, 1<<32 + 1, math.MaxInt - 1, math.MaxInt,
}

// vars are variables, the edges and all lengths of digits among them.
func vars() []int {
	l := []int{lastVar - 1, lastVar}
	for v := range 300 {
		l = append(l, v)
	}
	for ten := 1; ten < lastVar; ten *= 10 {
		l = append(l, ten-1, ten, ten+1)
	}
	for two := 1; two < lastVar; two *= 2 {
		l = append(l, two-1, two, two+1)
	}
	for i := range 2000 {
		l = append(l, i*7919*1013%(lastVar+1))
	}
	return l
}

// lists are all lists of up to four numbers, among them literals of three variables and two that are none.
func lists() [][]int {
	signs := []int{-2, -1, 0, 1, 2, 3, lastLit - 1, lastLit, lastLit + 1}
	all := [][]int{nil, {}}
	last := [][]int{nil}
	for range 4 {
		var next [][]int
		for _, l := range last {
			for _, x := range signs {
				next = append(next, append(slices.Clone(l), x))
			}
		}
		all = append(all, next...)
		last = next
	}
	return all
}

// drawn are lists of many numbers, some of them there more than once.
func drawn() [][]int {
	var all [][]int
	x := uint32(99)
	for many := range 200 {
		l := make([]int, many)
		for i := range l {
			x = x*1664525 + 1013904223
			l[i] = int(x>>8)%(2*many) - many/2
		}
		all = append(all, l)
	}
	return all
}

// P2.1: a variable's literal is twice it, its inverse's one more.
func TestOf(t *testing.T) {
	for _, x := range []struct {
		v    int
		not  bool
		want int
	}{
		{0, false, 0}, {0, true, 1}, {1, false, 2}, {1, true, 3}, {3, false, 6}, {3, true, 7},
		{lastVar - 1, false, lastLit - 3}, {lastVar - 1, true, lastLit - 2},
		{lastVar, false, lastLit - 1}, {lastVar, true, lastLit},
	} {
		if got := lit.Of(x.v, x.not); got != x.want {
			t.Errorf("Of(%d, %v) = %d, want %d", x.v, x.not, got, x.want)
		}
	}
	for _, v := range vars() {
		if a, b := lit.Of(v, false), lit.Of(v, true); a != v+v || b != v+v+1 {
			t.Errorf("Of(%d) = %d, and %d", v, a, b)
		}
	}
}

// P2.1: what is no variable has no literal.
func TestOfNoVar(t *testing.T) {
	for _, v := range noVars {
		for _, not := range []bool{false, true} {
			if got := lit.Of(v, not); got != -1 {
				t.Errorf("Of(%d, %v) = %d", v, not, got)
			}
		}
	}
}

// P2.1: the limit is api's.
func TestLimit(t *testing.T) {
	if lastVar != api.MaxIndex || !lit.Good(2*api.MaxIndex+1) || lit.Good(2*api.MaxIndex+2) {
		t.Error("the last literal is not that of MaxIndex")
	}
}

// P2.1: what is told of literals.
func TestLiterals(t *testing.T) {
	for _, x := range []struct {
		l   int
		v   int
		neg bool
		not int
	}{
		{0, 0, false, 1}, {1, 0, true, 0}, {2, 1, false, 3}, {3, 1, true, 2}, {6, 3, false, 7}, {7, 3, true, 6},
		{lastLit - 3, lastVar - 1, false, lastLit - 2}, {lastLit - 2, lastVar - 1, true, lastLit - 3},
		{lastLit - 1, lastVar, false, lastLit}, {lastLit, lastVar, true, lastLit - 1},
	} {
		if good, v, neg, not := lit.Good(x.l), lit.Var(x.l), lit.Neg(x.l), lit.Not(x.l); !good || v != x.v || neg != x.neg || not != x.not {
			t.Errorf("literal %d: %v, %d, %v, %d", x.l, good, v, neg, not)
		}
	}
}

// P2.1: a literal is of the variable it was made of, and its Not is of the same one.
func TestLiteralsOfVars(t *testing.T) {
	for _, v := range vars() {
		for _, not := range []bool{false, true} {
			l := lit.Of(v, not)
			if !lit.Good(l) || lit.Var(l) != v || lit.Neg(l) != not || lit.Not(l) != lit.Of(v, !not) {
				t.Errorf("literal %d of %d, %v: %v, %d, %v, %d", l, v, not, lit.Good(l), lit.Var(l), lit.Neg(l), lit.Not(l))
			}
		}
	}
}

// P2.1: a number that is no literal is of no variable, of no inverse, and has no Not.
func TestNoLiterals(t *testing.T) {
	for _, l := range noLits {
		if good, v, neg, not := lit.Good(l), lit.Var(l), lit.Neg(l), lit.Not(l); good || v != -1 || neg || not != -1 {
			t.Errorf("no literal %d: %v, %d, %v, %d", l, good, v, neg, not)
		}
	}
}

// P2.2: any numbers, rising, each once.
func TestSorted(t *testing.T) {
	for _, x := range []struct{ l, want []int }{
		{nil, nil}, {[]int{}, nil}, {[]int{5}, []int{5}}, {[]int{5, 5}, []int{5}}, {[]int{-7, -7, -7}, []int{-7}},
		{[]int{1, 2, 3}, []int{1, 2, 3}}, {[]int{3, 2, 1}, []int{1, 2, 3}},
		{[]int{2, 1, 2, 0, 1, 2}, []int{0, 1, 2}},
		{[]int{10, 9, -1, -10, 100}, []int{-10, -1, 9, 10, 100}},
		{[]int{math.MaxInt, 0, math.MinInt, lastLit, math.MaxInt}, []int{math.MinInt, 0, lastLit, math.MaxInt}},
	} {
		if got := lit.Sorted(x.l); !slices.Equal(got, x.want) {
			t.Errorf("Sorted(%v) = %v, want %v", x.l, got, x.want)
		}
	}
}

// P2.2: the same numbers are in it, and each is above the one ahead of it.
func TestSortedIsTheSame(t *testing.T) {
	for _, l := range append(lists(), drawn()...) {
		got := lit.Sorted(l)
		for i := 1; i < len(got); i++ {
			if got[i] <= got[i-1] {
				t.Errorf("Sorted(%v) = %v", l, got)
			}
		}
		for _, x := range l {
			if !slices.Contains(got, x) {
				t.Errorf("Sorted(%v) = %v without %d", l, got, x)
			}
		}
		for _, x := range got {
			if !slices.Contains(l, x) {
				t.Errorf("Sorted(%v) = %v with %d", l, got, x)
			}
		}
	}
}

// P2.2: a number is among some wherever it stands.
func TestHas(t *testing.T) {
	for _, x := range []struct {
		l    []int
		x    int
		want bool
	}{
		{nil, 0, false}, {[]int{}, -1, false}, {[]int{0}, 0, true}, {[]int{0}, 1, false}, {[]int{1}, 0, false},
		{[]int{9, 3, 5, 3}, 9, true}, {[]int{9, 3, 5, 3}, 3, true}, {[]int{9, 3, 5, 3}, 5, true},
		{[]int{9, 3, 5, 3}, 4, false}, {[]int{9, 3, 5, 3}, 8, false}, {[]int{9, 3, 5, 3}, 2, false}, {[]int{9, 3, 5, 3}, -3, false},
		{[]int{5, 4, 3, 2, 1}, 1, true}, {[]int{5, 4, 3, 2, 1}, 5, true},
		{[]int{-1, -5, math.MinInt}, -1, true}, {[]int{-1, -5, math.MinInt}, math.MinInt, true}, {[]int{-1, -5}, math.MinInt, false},
		{[]int{lastLit + 1, math.MaxInt}, math.MaxInt, true}, {[]int{lastLit + 1}, lastLit, false},
	} {
		if got := lit.Has(x.l, x.x); got != x.want {
			t.Errorf("Has(%v, %d) = %v", x.l, x.x, got)
		}
	}
	for _, l := range drawn() {
		for x := -250; x <= 450; x++ {
			want := false
			for _, y := range l {
				want = want || x == y
			}
			if got := lit.Has(l, x); got != want {
				t.Errorf("Has(%v, %d) = %v", l, x, got)
			}
		}
	}
}

// P2.2: a good literal and its Not are among some, in whatever order, and whatever stands between and beside them.
func TestTied(t *testing.T) {
	for _, x := range []struct {
		l    []int
		want bool
	}{
		{nil, false}, {[]int{}, false}, {[]int{0}, false}, {[]int{1}, false}, {[]int{2, 2}, false}, {[]int{3, 3, 3}, false},
		{[]int{0, 1}, true}, {[]int{1, 0}, true}, {[]int{1, 2}, false}, {[]int{2, 1}, false}, {[]int{3, 4}, false},
		{[]int{2, 3}, true}, {[]int{3, 2}, true}, {[]int{2, 2, 3, 3}, true}, {[]int{3, 9, 5, 0, 2}, true},
		{[]int{0, 2, 4, 6}, false}, {[]int{1, 3, 5, 7}, false}, {[]int{7, 4, 1, 2, 8}, false},
		{[]int{lastLit - 1, lastLit}, true}, {[]int{lastLit, 5, lastLit - 1}, true}, {[]int{lastLit - 2, lastLit - 1}, false},

		{[]int{-1, -1}, false}, {[]int{-1}, false}, {[]int{-2, -1}, false}, {[]int{-1, -2}, false}, {[]int{-3, -2}, false},
		{[]int{-4, -3}, false}, {[]int{-1, 0}, false}, {[]int{-1, 1}, false}, {[]int{math.MinInt, math.MinInt + 1}, false},
		{[]int{lastLit, lastLit + 1}, false}, {[]int{lastLit + 1, lastLit + 2}, false}, {[]int{lastLit + 2, lastLit + 3}, false},
		{[]int{math.MaxInt - 1, math.MaxInt}, false}, {[]int{math.MinInt, math.MaxInt}, false},

		{[]int{-1, 4, -2, 5, lastLit + 1}, true}, {[]int{math.MinInt, 1, math.MaxInt, 0}, true},
		{[]int{lastLit + 2, lastLit, -1, lastLit + 1, lastLit - 1, lastLit + 3}, true},
		{[]int{-1, 4, -2, 6, lastLit + 1, lastLit + 2}, false},
	} {
		if got := lit.Tied(x.l); got != x.want {
			t.Errorf("Tied(%v) = %v", x.l, got)
		}
	}
}

// P2.2: of many lists, by holding each number against each other one.
func TestTiedPairs(t *testing.T) {
	for _, l := range append(lists(), drawn()...) {
		want := false
		for _, x := range l {
			for _, y := range l {
				want = want || x >= 0 && x%2 == 0 && y == x+1 && y <= lastLit
			}
		}
		if got := lit.Tied(l); got != want {
			t.Errorf("Tied(%v) = %v", l, got)
		}
	}
}

// P2.3: the digits of the variable, ! ahead of an inverse's, ? of what is no literal.
func TestText(t *testing.T) {
	for _, x := range []struct {
		l    int
		want string
	}{
		{0, "0"}, {1, "!0"}, {2, "1"}, {3, "!1"}, {7, "!3"}, {18, "9"}, {20, "10"}, {21, "!10"}, {201, "!100"},
		{lastLit - 1, "16777216"}, {lastLit, "!16777216"}, {lastLit - 2, "!16777215"},
	} {
		if got := lit.Text(x.l); got != x.want {
			t.Errorf("Text(%d) = %q, want %q", x.l, got, x.want)
		}
	}
	for _, v := range vars() {
		digits := strconv.Itoa(v)
		if a, b := lit.Text(2*v), lit.Text(2*v+1); a != digits || b != "!"+digits {
			t.Errorf("texts of %d: %q, %q", v, a, b)
		}
	}
	for _, l := range noLits {
		if got := lit.Text(l); got != "?" {
			t.Errorf("Text(%d) = %q", l, got)
		}
	}
}

// P2.3: what is read.
func TestRead(t *testing.T) {
	for _, x := range []struct {
		s string
		l int
	}{
		{"0", 0}, {"!0", 1}, {"1", 2}, {"!1", 3}, {"!3", 7}, {"9", 18}, {"10", 20}, {"!10", 21}, {"100", 200},
		{"16777215", lastLit - 3}, {"16777216", lastLit - 1}, {"!16777216", lastLit},
	} {
		if got, e := lit.Read(x.s); got != x.l || e != api.OK {
			t.Errorf("Read(%q) = %d, %d, want %d", x.s, got, e, x.l)
		}
	}
}

// P2.3: what is no literal's text.
func TestReadWrong(t *testing.T) {
	for _, s := range []string{
		"", "!", "!!", "?", "!?", "?1", "x", "!x", "-", "~1", "\x00", "\xff",
		"00", "!00", "01", "!01", "007", "!0016777216", "0000000001",
		"!!0", "!!1", "!!!1", "1!", "!1!", "! !1",
		"1 ", "!1 ", "1\n", "!1\n", "1x", "!1x", "0x", "0 0", "1 2", "1,", "1.0", "1?", "1\x00", "0!",
		" 1", " !1", "! 1", "\n1", "+1", "-1", "!-1", "!+1", "-0", "1_0", "1e1", "0x1", "٣", "!１",
		"16777217", "!16777217", "16777218", "33554432", "!33554433", "99999999", "999999999", "!999999999",
		"1000000000", "!1000000000", "4294967296", "4294967297", "!18446744073709551616", "18446744073709551617",
		strings.Repeat("1", 100000), strings.Repeat("!", 100000), "!" + strings.Repeat("0", 100000),
	} {
		if got, e := lit.Read(s); got != 0 || e != api.ErrForm {
			t.Errorf("Read(%.40q) = %d, %d", s, got, e)
		}
	}
}

// P2.3: of all texts of up to three signs just those are read that are texts of literals.
func TestReadShort(t *testing.T) {
	want := map[string]int{}
	for l := range 2000 {
		want[lit.Text(l)] = l
	}
	last := []string{""}
	for range 3 {
		var next []string
		for _, s := range last {
			for b := range 256 {
				if len(s) < 2 || strings.IndexByte("!0123456789? -+x\n\xff", byte(b)) >= 0 {
					next = append(next, s+string([]byte{byte(b)}))
				}
			}
		}
		for _, s := range next {
			l, e := lit.Read(s)
			wantLit, is := want[s]
			if is && (l != wantLit || e != api.OK) || !is && (l != 0 || e != api.ErrForm) {
				t.Errorf("Read(%q) = %d, %d", s, l, e)
			}
		}
		last = next
	}
}

// P2.4: Not of Not is what it was.
func TestNotOfNot(t *testing.T) {
	for _, v := range vars() {
		for _, l := range []int{2 * v, 2*v + 1} {
			if not := lit.Not(l); not == l || lit.Not(not) != l {
				t.Errorf("Not of Not of %d: %d, by %d", l, lit.Not(not), not)
			}
		}
	}
}

// P2.4: Read of Text is it; with anything ahead of it or behind it, it is another one, or none.
func TestReadOfText(t *testing.T) {
	for _, v := range vars() {
		for _, l := range []int{2 * v, 2*v + 1} {
			s := lit.Text(l)
			if got, e := lit.Read(s); got != l || e != api.OK {
				t.Errorf("Read(%q) = %d, %d, want %d", s, got, e, l)
			}
			for _, wrong := range []string{"0" + s, "?" + s, " " + s, "!!" + s, s + " ", s + "!", s + "x", s + "\n"} {
				if got, e := lit.Read(wrong); got != 0 || e != api.ErrForm {
					t.Errorf("Read(%q) = %d, %d", wrong, got, e)
				}
			}
		}
	}
}

// P2.4: Text of what is read is the text.
func TestTextOfRead(t *testing.T) {
	for _, s := range []string{"0", "!0", "5", "!5", "10", "!4096", "16777216", "!16777216"} {
		if l, e := lit.Read(s); e != api.OK || lit.Text(l) != s {
			t.Errorf("Text of Read(%q) = %q, %d", s, lit.Text(l), e)
		}
	}
}

// The rule on memory: what is handed in is not changed, its spare room included, and what is answered is new.
func TestMemory(t *testing.T) {
	for _, first := range [][]int{{5, 3, 5, 2, 3}, {1, 2, 3}, {4}, {}} {
		room := append(append(make([]int, 0, 12), first...), 9, 8, 7, 9, -6)
		before := slices.Clone(room)
		l := room[:len(first)]
		got := lit.Sorted(l)
		lit.Tied(l)
		lit.Has(l, 3)
		if !slices.Equal(room, before) {
			t.Errorf("%v is changed: %v", before, room)
		}
		want := slices.Clone(got)
		again := lit.Sorted(l)
		for i := range again {
			again[i] = -100
		}
		for i := range room {
			room[i] = -200
		}
		if !slices.Equal(got, want) {
			t.Errorf("Sorted shares its answer: %v, want %v", got, want)
		}
		for i := range got {
			got[i] = -300
		}
		_ = append(got, -400, -400)
		if slices.Contains(room, -300) || slices.Contains(room, -400) {
			t.Errorf("Sorted shares its argument: %v", room)
		}
	}
}

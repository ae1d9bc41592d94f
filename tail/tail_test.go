package tail_test

import (
	"math"
	"slices"
	"strings"
	"testing"
	"unsafe"

	"latchet/api"
	"latchet/octet"
	"latchet/tail"
)

// maxName is written out by itself, so that one that is one off is seen.
const maxName = 64

// signs are those of what a symbol can name.
const signs = "ilobc"

// noPlaces are numbers that are no place in a text of that length.
func noPlaces(length int) []int {
	return []int{-1, -2, -100, math.MinInt, math.MinInt + 1, length + 1, length + 2, length + 100, 1 << 32, 1<<32 + 1, math.MaxInt - 1, math.MaxInt}
}

// sym is a symbol.
func sym(kind byte, index int, name string) api.Symbol {
	return api.Symbol{Kind: kind, Index: index, Name: name}
}

// syms is a list of symbols.
func syms(l ...api.Symbol) []api.Symbol { return l }

// some is a head whose numbers are all apart.
func some() api.Head { return api.Head{Bin: true, M: 90, I: 3, L: 4, O: 5, A: 80, B: 6, C: 7} }

// countOf is how many a head has of a kind, looked up in another way.
func countOf(h api.Head, kind byte) int {
	k := strings.IndexByte(signs, kind)
	if k < 0 {
		return 0
	}
	return []int{h.I, h.L, h.O, h.B, h.C}[k]
}

// each is a head that has so many of each.
func each(n int) api.Head { return api.Head{I: n, L: n, O: n, B: n, C: n} }

// long is a name of that many bytes.
func long(n int) string { return strings.Repeat("n", n) }

// wantRead holds what is read against what should be.
func wantRead(t *testing.T, s string, at int, h api.Head, should []api.Symbol, text string, place int, e api.Errno) {
	t.Helper()
	l, comment, end, err := tail.Read(s, at, h)
	if !slices.Equal(l, should) || comment != text || end != place || err != e {
		t.Errorf("Read(%q, %d) is %v, %q, %d, %d, not %v, %q, %d, %d", s, at, l, comment, end, err, should, text, place, e)
	}
}

// wantError holds what is wrong with a text against what should be, and that nothing else is told.
func wantError(t *testing.T, s string, at int, h api.Head, place int, e api.Errno) {
	t.Helper()
	wantRead(t, s, at, h, nil, "", place, e)
}

// P12.1: of each of the five signs how many there are by the head, and of others 0.
func TestCount(t *testing.T) {
	h := some()
	for kind := range 256 {
		should := 0
		switch kind {
		case 'i':
			should = 3
		case 'l':
			should = 4
		case 'o':
			should = 5
		case 'b':
			should = 6
		case 'c':
			should = 7
		}
		if got := tail.Count(h, byte(kind)); got != should {
			t.Errorf("Count of %d is %d, not %d", kind, got, should)
		}
		if got := tail.Count(api.Head{}, byte(kind)); got != 0 {
			t.Errorf("Count of %d of nothing is %d", kind, got)
		}
		if got := tail.Count(api.Head{Bin: true, M: 9, A: 9}, byte(kind)); got != 0 {
			t.Errorf("Count of %d of gates alone is %d", kind, got)
		}
	}
	for _, n := range []int{1, 1 << 24, 1 << 32, math.MaxInt} {
		for k := range len(signs) {
			if got := tail.Count(each(n), signs[k]); got != n {
				t.Errorf("Count of %q is %d, not %d", signs[k], got, n)
			}
		}
	}
}

// wantGood holds whether symbols are good against what should be.
func wantGood(t *testing.T, h api.Head, should bool, l ...api.Symbol) {
	t.Helper()
	if got := tail.Good(h, l); got != should {
		t.Errorf("Good(%v, %v) is %v", h, l, got)
	}
}

// P12.1: symbols that are good.
func TestGood(t *testing.T) {
	for _, h := range []api.Head{{}, some(), each(1)} {
		wantGood(t, h, true)
		if !tail.Good(h, []api.Symbol{}) || !tail.Good(h, nil) {
			t.Error("no symbols are not good")
		}
	}
	wantGood(t, some(), true, sym('i', 0, "x"))
	wantGood(t, some(), true, sym('c', 6, "x"), sym('b', 5, "x"), sym('o', 4, "x"), sym('l', 3, "x"), sym('i', 2, "x"))
	wantGood(t, some(), true, sym('i', 2, " "), sym('l', 0, "c"), sym('i', 0, "i0 x"), sym('i', 1, "\x00\xff\r"))
}

// P12.1: a Kind is one of the five.
func TestGoodKinds(t *testing.T) {
	h := each(3)
	h.M, h.A = 3, 3
	for kind := range 256 {
		should := strings.IndexByte(signs, byte(kind)) >= 0
		for index := range 3 {
			wantGood(t, h, should, sym(byte(kind), index, "x"))
			wantGood(t, h, should, sym('i', 0, "x"), sym(byte(kind), index+1-index/2, "x"), sym('l', 0, "x"))
		}
		wantGood(t, h, false, sym(byte(kind), -1, "x"))
	}
}

// P12.1: an Index is from 0 to one less than the Count of its own kind.
func TestGoodIndices(t *testing.T) {
	for k := range len(signs) {
		for _, h := range []api.Head{{}, some(), each(1), each(2), each(1 << 24), each(math.MaxInt), {M: 9, A: 9}} {
			n := countOf(h, signs[k])
			for _, x := range []int{-2, -1, 0, 1, n - 2, n - 1} {
				wantGood(t, h, x >= 0 && x < n, sym(signs[k], x, "x"))
			}
			for _, x := range []int{n, n + 1, 1 << 32, math.MaxInt, math.MinInt, math.MinInt + 1} {
				if x < 0 || x >= n { // behind the last number of all is the first one
					wantGood(t, h, false, sym(signs[k], x, "x"))
				}
			}
		}
		for _, n := range []int{-1, -2, math.MinInt} {
			for _, x := range []int{n, -1, 0, 1} {
				wantGood(t, each(n), false, sym(signs[k], x, "x"))
			}
		}
	}
}

// P12.1: a Name has from 1 to MaxName bytes, none of them a line feed.
func TestGoodNames(t *testing.T) {
	h := each(1)
	for many := range 200 {
		wantGood(t, h, many >= 1 && many <= maxName, sym('b', 0, long(many)))
		for _, at := range []int{0, many / 2, many - 1} {
			if at >= 0 && at < many {
				wantGood(t, h, false, sym('b', 0, long(at)+"\n"+long(many-at-1)))
			}
		}
	}
	// Bytes are counted, not letters.
	wantGood(t, h, true, sym('b', 0, strings.Repeat("ü", maxName/2)))
	wantGood(t, h, false, sym('b', 0, strings.Repeat("ü", maxName/2)+"n"))
	for b := range 256 {
		one := string([]byte{byte(b)})
		for _, name := range []string{one, one + "x", "x" + one, "x" + one + "x", strings.Repeat(one, maxName)} {
			wantGood(t, h, b != '\n', sym('o', 0, name))
		}
	}
	wantGood(t, h, false, sym('i', 0, long(1<<20)))
}

// P12.1: no two have the same Kind and Index, wherever they stand.
func TestGoodTwice(t *testing.T) {
	h := each(9)
	wantGood(t, h, true, sym('i', 0, "x"), sym('i', 1, "x"))
	wantGood(t, h, true, sym('i', 0, "x"), sym('l', 0, "x"))
	wantGood(t, h, true, sym('i', 1, "x"), sym('l', 0, "x"), sym('i', 0, "x"), sym('l', 1, "x"))
	wantGood(t, h, false, sym('i', 0, "x"), sym('i', 0, "x"))
	wantGood(t, h, false, sym('i', 0, "x"), sym('i', 0, "y"))
	wantGood(t, h, false, sym('c', 8, "x"), sym('l', 8, "x"), sym('c', 8, "y"))
	var all []api.Symbol
	for k := range len(signs) {
		for x := range 9 {
			all = append(all, sym(signs[k], x, "x"))
		}
	}
	wantGood(t, h, true, all...)
	for _, y := range all {
		wantGood(t, h, false, append(slices.Clone(all), y)...)
		wantGood(t, h, false, slices.Insert(slices.Clone(all), 0, y)...)
	}
}

// P12.1: each symbol counts, the first and the last one, too.
func TestGoodEach(t *testing.T) {
	h := some()
	good := syms(sym('i', 0, "x"), sym('i', 1, "x"), sym('l', 0, "y"), sym('b', 5, "z"))
	for _, y := range syms(sym('a', 0, "x"), sym('j', 0, "x"), sym('i', 3, "x"), sym('i', -1, "x"), sym('c', 0, ""), sym('c', 0, "a\nb"), sym('c', 0, long(65)), sym('l', 0, "x"), api.Symbol{}) {
		for at := range len(good) + 1 {
			wantGood(t, h, false, slices.Insert(slices.Clone(good), at, y)...)
		}
	}
}

// P12.2: of each symbol a line, and the line c with the comment, if there is one.
func TestWrite(t *testing.T) {
	for _, x := range []struct {
		l       []api.Symbol
		comment string
		want    string
	}{
		{nil, "", ""},
		{syms(), "", ""},
		{nil, "hello", "c\nhello"},
		{nil, "hello\n", "c\nhello\n"},
		{nil, "\n", "c\n\n"},
		{nil, "\n\n\n", "c\n\n\n\n"},
		{nil, "c\n", "c\nc\n"},
		{nil, "c", "c\nc"},
		{nil, "i0 x\nc\ny", "c\ni0 x\nc\ny"},
		{nil, "\x00\xff\r", "c\n\x00\xff\r"},
		{syms(sym('i', 0, "x")), "", "i0 x\n"},
		{syms(sym('i', 0, "x")), "hello", "i0 x\nc\nhello"},
		{syms(sym('l', 10, "a b"), sym('i', 999999999, "c"), sym('c', 0, "c")), "", "l10 a b\ni999999999 c\nc0 c\n"},
		{syms(sym('l', 10, "a b"), sym('i', 7, "c")), "i8 y\n", "l10 a b\ni7 c\nc\ni8 y\n"},
		// of any symbols
		{syms(api.Symbol{}), "", "\x000 \n"},
		{syms(sym('z', -1, "")), "", "z-1 \n"},
		{syms(sym(0xff, math.MinInt, "\n")), "c", "\xff-9223372036854775808 \n\nc\nc"},
		{syms(sym('\n', math.MaxInt, "a\nb\n"), sym('c', 0, "x"), sym('c', 0, "x")), "", "\n9223372036854775807 a\nb\n\nc0 x\nc0 x\n"},
		{syms(sym(' ', -10, long(65))), "", " -10 " + long(65) + "\n"},
	} {
		if got := tail.Write(x.l, x.comment); got != x.want {
			t.Errorf("Write(%v, %q) is %q, not %q", x.l, x.comment, got, x.want)
		}
	}
	for kind := range 256 {
		want := string([]byte{byte(kind)}) + "5 x\n"
		if got := tail.Write(syms(sym(byte(kind), 5, "x")), ""); got != want {
			t.Errorf("Write of the kind %d is %q", kind, got)
		}
	}
}

// P12.3: what stands in a text from a place on.
func TestRead(t *testing.T) {
	h := some()
	for _, x := range []struct {
		s       string
		at      int
		want    []api.Symbol
		comment string
	}{
		{"", 0, nil, ""},
		{"i0 x\n", 5, nil, ""},
		{"nothing of this is read", 23, nil, ""},
		{"c\n", 0, nil, ""},
		{"c\n", 2, nil, ""},
		{"c\nhello", 0, nil, "hello"},
		{"c\nhello\n", 0, nil, "hello\n"},
		{"c\n\n", 0, nil, "\n"},
		{"c\n\n\na\n\n", 0, nil, "\n\na\n\n"},
		{"c\nc", 0, nil, "c"},
		{"c\nc\n", 0, nil, "c\n"},
		{"c\nc\nx", 0, nil, "c\nx"},
		{"c\nc\nx", 2, nil, "x"},
		{"c\ni0 x\ni0 x\n?", 0, nil, "i0 x\ni0 x\n?"},
		{"c\n\x00\xff\r", 0, nil, "\x00\xff\r"},
		{"i0 x\nc\nhello", 0, syms(sym('i', 0, "x")), "hello"},
		{"i0 x\nc\n", 0, syms(sym('i', 0, "x")), ""},
		{"i0 x\n", 0, syms(sym('i', 0, "x")), ""},
		{"aag 1\ni0 x\n", 6, syms(sym('i', 0, "x")), ""},
		{"i0 i0 x\n", 3, syms(sym('i', 0, "x")), ""},
		{"i2 x\nl3 x\no4 x\nb5 x\nc6 x\n", 0, syms(sym('i', 2, "x"), sym('l', 3, "x"), sym('o', 4, "x"), sym('b', 5, "x"), sym('c', 6, "x")), ""},
		{"c6 x\nb5 x\no4 x\nl3 x\ni2 x\nc\nx", 0, syms(sym('c', 6, "x"), sym('b', 5, "x"), sym('o', 4, "x"), sym('l', 3, "x"), sym('i', 2, "x")), "x"},
		{"i1 x\ni0 x\ni2 x\n", 0, syms(sym('i', 1, "x"), sym('i', 0, "x"), sym('i', 2, "x")), ""},
		// all that is no line feed can be in a name
		{"i0  \n", 0, syms(sym('i', 0, " ")), ""},
		{"i0   x  y \n", 0, syms(sym('i', 0, "  x  y ")), ""},
		{"i0 \r\n", 0, syms(sym('i', 0, "\r")), ""},
		{"i0 \x00\xff\n", 0, syms(sym('i', 0, "\x00\xff")), ""},
		{"i0 c\nc0 c\nc\nc", 0, syms(sym('i', 0, "c"), sym('c', 0, "c")), "c"},
		{"i0 " + long(maxName) + "\nl0 " + long(1) + "\n", 0, syms(sym('i', 0, long(maxName)), sym('l', 0, "n")), ""},
		{"i0 " + long(maxName-1) + "\n", 0, syms(sym('i', 0, long(maxName-1))), ""},
	} {
		wantRead(t, x.s, x.at, h, x.want, x.comment, len(x.s), api.OK)
	}
	wantRead(t, "", 0, api.Head{}, nil, "", 0, api.OK)
	wantRead(t, "c\ni0 x\n", 0, api.Head{}, nil, "i0 x\n", 7, api.OK)
	wantRead(t, "i999999999 x\ni0 y\n", 0, each(1000000000), syms(sym('i', 999999999, "x"), sym('i', 0, "y")), "", 18, api.OK)
	wantRead(t, "b999999999 x\n", 0, each(math.MaxInt), syms(sym('b', 999999999, "x")), "", 13, api.OK)
}

// P12.3: what is ahead of the place plays no part.
func TestReadFromAPlace(t *testing.T) {
	rest := "i0 x\nl0 y\nc\nhello"
	for _, ahead := range []string{"", "?", "c", "c\n", "i0 x\n", "i0 z", "\n", "\x80", strings.Repeat("l0 a\n", 100)} {
		at := len(ahead)
		wantRead(t, ahead+rest, at, some(), syms(sym('i', 0, "x"), sym('l', 0, "y")), "hello", at+len(rest), api.OK)
		wantRead(t, ahead+rest, at+5, some(), syms(sym('l', 0, "y")), "hello", at+len(rest), api.OK)
		wantRead(t, ahead+rest, at+10, some(), nil, "hello", at+len(rest), api.OK)
		wantError(t, ahead+rest, at+1, some(), at+1, api.ErrForm)
		wantError(t, ahead+"i0 x\ni9 y\n", at, some(), at+6, api.ErrRange)
	}
}

// P12.3: a place below 0, or behind the end, whatever the text is.
func TestReadNoPlace(t *testing.T) {
	for _, s := range []string{"", "i0 x\n", "c\n", "c\nhello", "?", "i"} {
		for _, at := range noPlaces(len(s)) {
			wantError(t, s, at, some(), 0, api.ErrArg)
			wantError(t, s, at, api.Head{}, 0, api.ErrArg)
		}
		wantRead(t, s, len(s), some(), nil, "", len(s), api.OK)
	}
}

// P12.3: just the five signs begin a symbol's line.
func TestReadSigns(t *testing.T) {
	for b := range 256 {
		for _, rest := range []string{"", "0 x\n", "\n", " ", "9", "0 " + long(65) + "\n"} {
			s := "i0 x\n" + string([]byte{byte(b)}) + rest
			if strings.IndexByte(signs, byte(b)) < 0 {
				wantError(t, s, 0, some(), 5, api.ErrForm)
				wantError(t, s[5:], 0, some(), 0, api.ErrForm)
				wantError(t, s, 5, some(), 5, api.ErrForm)
			}
		}
		if b != 'i' && strings.IndexByte(signs, byte(b)) >= 0 {
			wantRead(t, "i0 x\n"+string([]byte{byte(b)})+"0 y\n", 0, some(), syms(sym('i', 0, "x"), sym(byte(b), 0, "y")), "", 10, api.OK)
		}
	}
}

// wrong are lines that are not right where there are three of each, what is wrong with them, and where; ends are those
// that nothing may follow, if they are to be wrong in that way.
var wrong = []struct {
	line  string
	place int
	e     api.Errno
	ends  bool
}{
	{"\n", 0, api.ErrForm, false},
	{" i0 x\n", 0, api.ErrForm, false},
	{"j0 x\n", 0, api.ErrForm, false},
	{"a0 x\n", 0, api.ErrForm, false},
	{"I0 x\n", 0, api.ErrForm, false},
	{"0 x\n", 0, api.ErrForm, false},
	{"\x00", 0, api.ErrForm, false},
	// behind the sign
	{"i", 1, api.ErrEnd, true},
	{"c", 1, api.ErrEnd, true},
	{"i\n", 1, api.ErrForm, false},
	{"i x\n", 1, api.ErrForm, false},
	{"i-1 x\n", 1, api.ErrForm, false},
	{"i+1 x\n", 1, api.ErrForm, false},
	{"ix\n", 1, api.ErrForm, false},
	{"ii0 x\n", 1, api.ErrForm, false},
	{"i00 x\n", 1, api.ErrForm, false},
	{"i01 x\n", 1, api.ErrForm, false},
	{"c \n", 1, api.ErrForm, false},
	{"c\r\n", 1, api.ErrForm, false},
	{"cc\n", 1, api.ErrForm, false},
	{"c hello\n", 1, api.ErrForm, false},
	{"i1000000000 x\n", 1, api.ErrRange, false},
	{"i10000000000000000000000 x\n", 1, api.ErrRange, false},
	{"i3 x\n", 1, api.ErrRange, false},
	{"i4 x\n", 1, api.ErrRange, false},
	{"i999999999 x\n", 1, api.ErrRange, false},
	// behind the digits
	{"i0", 2, api.ErrEnd, true},
	{"c2", 2, api.ErrEnd, true},
	{"i0\n", 2, api.ErrForm, false},
	{"i0\t", 2, api.ErrForm, false},
	{"i0x\n", 2, api.ErrForm, false},
	{"i2:x\n", 2, api.ErrForm, false},
	// behind the blank
	{"i0 ", 3, api.ErrEnd, true},
	{"i0 x", 3, api.ErrEnd, true},
	{"i0 x y ", 3, api.ErrEnd, true},
	{"i0 c\r", 3, api.ErrEnd, true},
	{"i0 " + "n" + "\x00", 3, api.ErrEnd, true},
	{"i0 \n", 3, api.ErrForm, false},
	{"i0 " + strings.Repeat("n", 65) + "\n", 3, api.ErrLong, false},
	{"i0 " + strings.Repeat(" ", 66) + "\n", 3, api.ErrLong, false},
	{"i0 " + strings.Repeat("n", 1000) + "\n", 3, api.ErrLong, false},
	{"i0 " + strings.Repeat("ü", 33) + "\n", 3, api.ErrLong, false},
}

// P12.3: each error, and where it is, whatever lines are right ahead of it, and whatever comes behind it.
func TestReadErrors(t *testing.T) {
	h := each(3)
	for _, x := range wrong {
		for _, ahead := range []string{"", "i1 x\n", "i1 x\nl0 y\nc0 z\n", "b2 c\n", "i1 " + long(64) + "\n"} {
			for _, behind := range []string{"", "i2 x\n", "?", "c\nhello", "\n", "\n\n"} {
				if behind != "" && x.ends {
					continue
				}
				s := ahead + x.line + behind
				wantError(t, s, 0, h, len(ahead)+x.place, x.e)
				wantError(t, s, len(ahead), h, len(ahead)+x.place, x.e)
			}
		}
		// behind the line c nothing is wrong
		wantRead(t, "c\n"+x.line, 0, h, nil, x.line, 2+len(x.line), api.OK)
	}
}

// P12.3: the first line that is wrong is told, whatever is wrong with later ones.
func TestReadFirstLine(t *testing.T) {
	h := each(3)
	for _, x := range wrong {
		if x.ends {
			continue
		}
		for _, y := range wrong {
			wantError(t, "l1 x\n"+x.line+y.line, 0, h, 5+x.place, x.e)
			wantError(t, "l1 x\n"+x.line+"l1 x\n"+y.line, 0, h, 5+x.place, x.e)
			wantError(t, "l1 x\nl1 x\n"+y.line, 0, h, 5, api.ErrTwice)
		}
	}
}

// P12.3: of one line that is wrong in several ways the first one is told.
func TestReadFirst(t *testing.T) {
	h := each(3)
	big := long(65)
	for _, x := range []struct {
		s     string
		place int
		e     api.Errno
	}{
		// the sign ahead of all
		{"j", 0, api.ErrForm},
		{"j9", 0, api.ErrForm},
		{"j1000000000", 0, api.ErrForm},
		{"j0 " + big + "\n", 0, api.ErrForm},
		// digits ahead of how many there are, of the blank, and of the name
		{"i00", 1, api.ErrForm},
		{"i09\n", 1, api.ErrForm},
		{"i00 \n", 1, api.ErrForm},
		{"i0000000000 x\n", 1, api.ErrForm},
		{"i1000000000", 1, api.ErrRange},
		{"i1000000000x\n", 1, api.ErrRange},
		{"i x", 1, api.ErrForm},
		{"i " + big + "\n", 1, api.ErrForm},
		// how many there are ahead of the blank, and of the name
		{"i3", 1, api.ErrRange},
		{"i3x", 1, api.ErrRange},
		{"i3\n", 1, api.ErrRange},
		{"i3 ", 1, api.ErrRange},
		{"i3 \n", 1, api.ErrRange},
		{"i3 x", 1, api.ErrRange},
		{"i3 " + big + "\n", 1, api.ErrRange},
		// the blank ahead of the line feed, and of the name
		{"i0x", 2, api.ErrForm},
		{"i0" + big + "\n", 2, api.ErrForm},
		{"i0\n", 2, api.ErrForm},
		{"i0_ \n", 2, api.ErrForm},
		// the line feed ahead of how long the name is
		{"i0 ", 3, api.ErrEnd},
		{"i0 " + big, 3, api.ErrEnd},
		{"i0 " + long(64), 3, api.ErrEnd},
		// the name ahead of what is there twice
		{"i0 x\ni0 \n", 8, api.ErrForm},
		{"i0 x\ni0 x", 8, api.ErrEnd},
		{"i0 x\ni0 ", 8, api.ErrEnd},
		{"i0 x\ni0 " + big + "\n", 8, api.ErrLong},
		{"i0 x\ni0\n", 7, api.ErrForm},
		{"i0 x\ni0", 7, api.ErrEnd},
		{"i0 x\ni00 x\n", 6, api.ErrForm},
		{"i0 x\ni0 x\n", 5, api.ErrTwice},
	} {
		wantError(t, x.s, 0, h, x.place, x.e)
		wantError(t, "o1 x\n"+x.s, 0, h, 5+x.place, x.e)
	}
}

// P12.3: an Index is below the Count of its own kind.
func TestReadIndices(t *testing.T) {
	for _, h := range []api.Head{{}, {M: 9, A: 9}, some(), each(1), each(11), each(1 << 24), each(1000000000), each(-1), each(math.MinInt), each(math.MaxInt)} {
		for k := range len(signs) {
			n := countOf(h, signs[k])
			for _, x := range []int{0, 1, 2, 3, 9, 10, 11, 12, n - 2, n - 1, n, 999999999} {
				if x < 0 || x > 999999999 {
					continue
				}
				s := signs[k:k+1] + octet.Dec(x) + " x\n"
				if x < n {
					wantRead(t, s, 0, h, syms(sym(signs[k], x, "x")), "", len(s), api.OK)
				} else {
					wantError(t, s, 0, h, 1, api.ErrRange)
				}
			}
		}
	}
}

// P12.3: a symbol that was there, whatever stands between both, is told at its line's first byte.
func TestReadTwice(t *testing.T) {
	h := each(2000)
	wantError(t, "i0 x\ni0 x\n", 0, h, 5, api.ErrTwice)
	wantError(t, "i0 x\ni0 y\n", 0, h, 5, api.ErrTwice)
	wantError(t, "i10 x\ni1 x\ni10 x\nc\nhello", 0, h, 11, api.ErrTwice)
	wantError(t, "l1 x\nl1 y\nl1 z\n", 0, h, 5, api.ErrTwice)
	wantError(t, "l1 x\nc1 x\nb0 x\nb0 x\nc1 x\n", 0, h, 15, api.ErrTwice)
	wantRead(t, "i0 x\nl0 x\n", 0, h, syms(sym('i', 0, "x"), sym('l', 0, "x")), "", 10, api.OK)
	wantRead(t, "i0 x\ni1 x\n", 0, h, syms(sym('i', 0, "x"), sym('i', 1, "x")), "", 10, api.OK)
	wantRead(t, "i0 x\ni0 x\n", 5, h, syms(sym('i', 0, "x")), "", 10, api.OK)
	wantRead(t, "c0 x\nc\nc0 x\n", 0, h, syms(sym('c', 0, "x")), "c0 x\n", 12, api.OK)
	var all []api.Symbol
	for k := range len(signs) {
		for x := range 2000 {
			all = append(all, sym(signs[k], x, "x"))
		}
	}
	s := tail.Write(all, "")
	wantRead(t, s, 0, h, all, "", len(s), api.OK)
	for _, y := range syms(all[0], all[1999], all[2000], all[9999]) {
		wantError(t, s+tail.Write(syms(y), "c"), 0, h, len(s), api.ErrTwice)
	}
}

// twin reads by the words, each line anew, with all that is ahead looked at again for what was there.
func twin(s string, at int, h api.Head) ([]api.Symbol, string, int, api.Errno) {
	if at < 0 || at > len(s) {
		return nil, "", 0, api.ErrArg
	}
	var l []api.Symbol
	for rest := s[at:]; rest != ""; {
		place := len(s) - len(rest)
		if text, ok := strings.CutPrefix(rest, "c\n"); ok {
			return l, text, len(s), api.OK
		}
		if !strings.ContainsRune(signs, rune(rest[0])) {
			return nil, "", place, api.ErrForm
		}
		noDigit := strings.IndexFunc(rest[1:], func(r rune) bool { return r < '0' || r > '9' })
		digits := rest[1:]
		if noDigit >= 0 {
			digits = rest[1 : 1+noDigit]
		}
		if rest[1:] == "" {
			return nil, "", place + 1, api.ErrEnd
		}
		if digits == "" || len(digits) > 1 && digits[0] == '0' {
			return nil, "", place + 1, api.ErrForm
		}
		index := 0
		for _, d := range digits {
			index = min(10*index+int(d-'0'), 1<<40)
		}
		if len(digits) > 9 || index >= countOf(h, rest[0]) {
			return nil, "", place + 1, api.ErrRange
		}
		behind := rest[1+len(digits):]
		switch {
		case behind == "":
			return nil, "", len(s), api.ErrEnd
		case behind[0] != ' ':
			return nil, "", len(s) - len(behind), api.ErrForm
		}
		name, more, ended := strings.Cut(behind[1:], "\n")
		switch {
		case !ended:
			return nil, "", len(s) - len(behind) + 1, api.ErrEnd
		case name == "":
			return nil, "", len(s) - len(behind) + 1, api.ErrForm
		case len(name) > maxName:
			return nil, "", len(s) - len(behind) + 1, api.ErrLong
		}
		for _, y := range l {
			if y.Kind == rest[0] && y.Index == index {
				return nil, "", place, api.ErrTwice
			}
		}
		l = append(l, sym(rest[0], index, name))
		rest = more
	}
	return l, "", len(s), api.OK
}

// wantTwin holds what is read against what the twin reads.
func wantTwin(t *testing.T, s string, at int, h api.Head) {
	t.Helper()
	l, comment, place, e := twin(s, at, h)
	wantRead(t, s, at, h, l, comment, place, e)
}

// P12.3: of all short texts, from all places in them.
func TestReadShortTexts(t *testing.T) {
	const few = "ibc01 \nx"
	h := api.Head{I: 2, B: 1, C: 11, L: 5}
	var grow func(s string)
	grow = func(s string) {
		wantTwin(t, s, 0, h)
		if len(s) < 4 {
			for at := -1; at <= len(s)+1; at++ {
				wantTwin(t, s, at, h)
			}
		}
		if len(s) == 6 {
			return
		}
		for k := range len(few) {
			grow(s + few[k:k+1])
		}
	}
	grow("")
}

// P12.3: of lines that are right and wrong, one behind the other, and of all of them that is cut short.
func TestReadLines(t *testing.T) {
	lines := []string{
		"i0 x\n", "i1 y\n", "i2 x\n", "i0 " + long(64) + "\n", "i1 " + long(65) + "\n", "l0 c\n", "l00 c\n", "l\n", "c0 x\n", "c10 x\n", "c1 \n",
		"c\n", "c", "c0", "b0 x", "b0  \n", "\n", "j0 x\n", "o1000000000 x\n", "o0\n", "x", " ", "7",
	}
	h := api.Head{I: 2, L: 1, O: 1, B: 1, C: 11}
	for _, a := range lines {
		for _, b := range lines {
			for _, c := range lines {
				wantTwin(t, a+b+c, 0, h)
			}
		}
	}
	whole := "l0 c\ni1 y\nc10 " + long(64) + "\nb0 x y\no0 z\ni0 x\nc\nhello\n"
	for end := range len(whole) + 1 {
		wantTwin(t, whole[:end], 0, h)
		for at := range end + 1 {
			wantTwin(t, whole[:end], at, h)
		}
	}
	for at := range len(whole) {
		for _, b := range []byte("\n ?c0i") {
			changed := []byte(whole)
			changed[at] = b
			wantTwin(t, string(changed), 0, h)
		}
	}
}

// draw is a small source of numbers that look as if drawn.
type draw uint32

// below is the next number below n.
func (d *draw) below(n int) int {
	*d = *d*1664525 + 1013904223
	return int(*d>>8) % n
}

// text is a drawn text of so many bytes, of a few signs or of all bytes but a line feed.
func (d *draw) text(many int, of string) string {
	b := make([]byte, many)
	for i := range b {
		if of != "" {
			b[i] = of[d.below(len(of))]
		} else if b[i] = byte(d.below(256)); b[i] == '\n' {
			b[i] = '?'
		}
	}
	return string(b)
}

// P12.4: what is written of good symbols, and any comment, is read.
func TestWriteIsRead(t *testing.T) {
	h := api.Head{I: 1000000000, L: 1000000001, O: 1 << 24, B: 7, C: math.MaxInt}
	d := draw(7)
	for range 3000 {
		var l []api.Symbol
		edge := 1
		for range d.below(12) {
			kind := signs[d.below(len(signs))]
			y := sym(kind, d.below(3), d.text(1+d.below(maxName), []string{"", "c \r0i"}[d.below(2)]))
			for range d.below(10) {
				edge = 10 * edge % 9999999990
			}
			if x := max(0, edge-1+d.below(2)); x < min(1000000000, countOf(h, kind)) && d.below(2) == 0 {
				y.Index = x
			}
			if tail.Good(h, append(slices.Clone(l), y)) {
				l = append(l, y)
			}
		}
		comment := d.text(d.below(40), []string{"", "c\n", "i0 x\nc"}[d.below(3)])
		ahead := d.text(d.below(5), "c\ni ")
		s := ahead + tail.Write(l, comment)
		wantRead(t, s, len(ahead), h, l, comment, len(s), api.OK)
		if len(l) > 0 {
			again := tail.Write(append(slices.Clone(l), l[d.below(len(l))]), comment)
			wantError(t, again, 0, h, len(tail.Write(l, "")), api.ErrTwice)
		}
	}
}

// P12.4: likewise of Indices of one to nine digits, and of names and comments of all lengths.
func TestWriteIsReadAtEdges(t *testing.T) {
	h := each(1000000000)
	var l []api.Symbol
	for edge := 1; edge <= 1000000000; edge *= 10 {
		for k := range len(signs) {
			for _, x := range []int{edge - 1, edge, 2 * edge} {
				y := sym(signs[k], x, long(1+len(l)%maxName))
				if x < 1000000000 && !slices.ContainsFunc(l, func(z api.Symbol) bool { return z.Kind == y.Kind && z.Index == x }) {
					l = append(l, y)
				}
			}
		}
	}
	if !tail.Good(h, l) || len(l) < 5*27 {
		t.Fatal("not good", len(l))
	}
	for _, comment := range []string{"", "\n", "c", "c\n", "c\nc\n", "i0 x\n", "hello", "hello\n", "\x00\xff", strings.Repeat("a line\n", 10000), tail.Write(l, "c\n")} {
		s := tail.Write(l, comment)
		wantRead(t, s, 0, h, l, comment, len(s), api.OK)
		for _, y := range l {
			one := tail.Write(syms(y), comment)
			wantRead(t, one, 0, h, syms(y), comment, len(one), api.OK)
		}
	}
	// Indices of more digits are good, but not read.
	far := syms(sym('l', 1000000000, "x"))
	if !tail.Good(each(1000000001), far) {
		t.Error("an Index of ten digits is not good")
	}
	wantError(t, tail.Write(far, ""), 0, each(1000000001), 1, api.ErrRange)
}

// P12.4: whatever is read without an error is good, and written it is what was read (but for a line c with nothing behind).
func TestReadIsWritten(t *testing.T) {
	h := each(12)
	d := draw(11)
	good := 0
	for range 20000 {
		s := ""
		for range d.below(4) {
			s += []string{"i0 x\n", "l11 y \n", "c1 c\n", "b2 " + long(64) + "\n", "o" + d.text(2, "01 2") + d.text(1+d.below(3), " x\n") + "\n"}[d.below(5)]
		}
		if d.below(3) == 0 {
			s += "c\nhello"
		}
		l, comment, _, e := tail.Read(s, 0, h)
		wantTwin(t, s, 0, h)
		if e != api.OK {
			continue
		}
		good++
		if !tail.Good(h, l) || tail.Write(l, comment) != s {
			t.Errorf("of %q read and written is %q", s, tail.Write(l, comment))
		}
	}
	if good < 1000 {
		t.Error("only", good, "are read")
	}
}

// The rule on memory: what is handed in stays as it was, its spare room, too, and what is told is memory of its own.
func TestMemory(t *testing.T) {
	room := syms(sym('i', 0, "x"), sym('l', 0, "y"), sym('b', 0, "z"), sym('z', -1, "spare"))
	before := slices.Clone(room)
	for range 3 {
		tail.Good(some(), room[:2])
		tail.Write(room[:2], "hello")
	}
	if !slices.Equal(room, before) {
		t.Error("symbols are changed:", room)
	}
	s := strings.Clone("i0 xyz\nl0 y\nc\nhello")
	l, comment, _, _ := tail.Read(s, 0, some())
	again, _, _, _ := tail.Read(s, 0, some())
	if within(s, comment) || within(s, l[0].Name) || within(s, l[1].Name) {
		t.Error("what is read shares memory with the text")
	}
	l[0] = sym('b', 5, "other")
	if again[0] != sym('i', 0, "xyz") {
		t.Error("symbols are shared:", again)
	}
	note := strings.Clone("hello")
	if got := tail.Write(nil, note); within(got, note) {
		t.Error("what is written shares memory with the comment")
	}
}

// within tells whether a text lies in the memory of another one.
func within(whole, part string) bool {
	from, at := uintptr(unsafe.Pointer(unsafe.StringData(whole))), uintptr(unsafe.Pointer(unsafe.StringData(part)))
	return at >= from && at < from+uintptr(len(whole))
}

// The rule on what an answer hangs on: the same call tells the same, whatever was called between.
func TestFromArgumentsAlone(t *testing.T) {
	s := "i0 x\ni1 y\nc0 z\nc\nhello"
	for range 3 {
		wantRead(t, s, 0, some(), syms(sym('i', 0, "x"), sym('i', 1, "y"), sym('c', 0, "z")), "hello", len(s), api.OK)
		wantError(t, "i0 x\ni0 x\n", 0, some(), 5, api.ErrTwice)
		wantGood(t, some(), true, sym('i', 0, "x"), sym('c', 0, "z"))
		wantGood(t, some(), false, sym('i', 0, "x"), sym('i', 0, "z"))
		if got := tail.Write(syms(sym('i', 0, "x")), "hello"); got != "i0 x\nc\nhello" {
			t.Errorf("Write is %q", got)
		}
	}
}

// The rule on ends: many symbols, long texts, and what is wrong far behind.
func TestMuch(t *testing.T) {
	const many = 1 << 18
	h := each(many)
	l := make([]api.Symbol, many)
	for i := range l {
		l[i] = sym(signs[i%len(signs)], i/len(signs), "n")
	}
	comment := strings.Repeat("i0 x\nc\n", 1<<18)
	s := tail.Write(l, comment)
	got, text, place, e := tail.Read(s, 0, h)
	if !slices.Equal(got, l) || text != comment || place != len(s) || e != api.OK || !tail.Good(h, l) {
		t.Error("many symbols:", len(got), len(text), place, e)
	}
	ahead := tail.Write(l, "")
	wantError(t, ahead+"i0 x\n", 0, h, len(ahead), api.ErrTwice)
	wantError(t, ahead+"i"+strings.Repeat("1", 1<<22), 0, h, len(ahead)+1, api.ErrRange)
	wantError(t, ahead+"i0 "+long(1<<22), 0, h, len(ahead)+3, api.ErrEnd)
	wantError(t, ahead+"i0 "+long(1<<22)+"\n", 0, h, len(ahead)+3, api.ErrLong)
}

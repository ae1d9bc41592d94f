package octet_test

import (
	"math"
	"slices"
	"strings"
	"testing"

	"latchet/api"
	"latchet/octet"
)

// noPlaces are numbers that are no place in a text of that length.
func noPlaces(length int) []int {
	return []int{-1, -2, math.MinInt, length + 1, length + 2, length + 100, math.MaxInt - 4, math.MaxInt}
}

// drawn are numbers of 32 bits of all lengths, the edges of each length among them.
func drawn() []uint32 {
	l := []uint32{0, 1, 300, math.MaxUint32}
	for bits := range 32 {
		edge := uint32(1) << bits
		l = append(l, edge-1, edge, edge+1)
	}
	x := uint32(12345)
	for i := range 5000 {
		x = x*1664525 + 1013904223
		l = append(l, x>>(i%32))
	}
	return l
}

// P1.1: digits of seven bits, the lowest first, each byte but the last one with 128 more.
func TestNum(t *testing.T) {
	for _, x := range []struct {
		n    uint32
		want string
	}{
		{0, "\x00"}, {1, "\x01"}, {2, "\x02"}, {127, "\x7f"},
		{128, "\x80\x01"}, {129, "\x81\x01"}, {300, "\xac\x02"}, {1<<14 - 1, "\xff\x7f"},
		{1 << 14, "\x80\x80\x01"}, {1<<21 - 1, "\xff\xff\x7f"},
		{1 << 21, "\x80\x80\x80\x01"}, {1<<28 - 1, "\xff\xff\xff\x7f"},
		{1 << 28, "\x80\x80\x80\x80\x01"}, {1 << 31, "\x80\x80\x80\x80\x08"},
		{math.MaxUint32, "\xff\xff\xff\xff\x0f"},
	} {
		if got := octet.Num(x.n); got != x.want {
			t.Errorf("Num(%d) = %x, want %x", x.n, got, x.want)
		}
	}
}

// P1.1: no more bytes than it takes, and only the last one is below 128.
func TestNumIsShort(t *testing.T) {
	for _, n := range drawn() {
		many := 1
		for rest := n >> 7; rest > 0; rest >>= 7 {
			many++
		}
		got := octet.Num(n)
		if len(got) != many {
			t.Errorf("Num(%d) has %d bytes, want %d", n, len(got), many)
		}
		for i := range len(got) {
			if (got[i] < 128) != (i == len(got)-1) {
				t.Errorf("Num(%d) = %x: byte %d", n, got, i)
			}
		}
	}
}

// P1.1: what Get tells of good numbers, and of each error.
func TestGet(t *testing.T) {
	for _, x := range []struct {
		s    string
		at   int
		n    uint32
		next int
		e    api.Errno
	}{
		{"\x00", 0, 0, 1, api.OK},
		{"\x00\x00", 1, 0, 2, api.OK},
		{"\x7f\xff", 0, 127, 1, api.OK},
		{"\xac\x02", 0, 300, 2, api.OK},
		{"\xac\x02", 1, 2, 2, api.OK},
		{"ab\xac\x02cd", 2, 300, 4, api.OK},
		{"\x80\x80\x80\x80\x01", 0, 1 << 28, 5, api.OK},
		{"\xff\xff\xff\xff\x0f\xff", 0, math.MaxUint32, 5, api.OK},

		{"", 0, 0, 0, api.ErrEnd},
		{"\x00", 1, 0, 0, api.ErrEnd},
		{"\x80", 0, 0, 0, api.ErrEnd},
		{"\xff\xff\xff", 0, 0, 0, api.ErrEnd},
		{"\xff\xff\xff\xff", 0, 0, 0, api.ErrEnd},

		{"\xff\xff\xff\xff\x10", 0, 0, 0, api.ErrRange},
		{"\x80\x80\x80\x80\x7f", 0, 0, 0, api.ErrRange},
		{"\x80\x80\x80\x80\x80", 0, 0, 0, api.ErrRange},
		{"\x80\x80\x80\x80\x80\x00", 0, 0, 0, api.ErrRange},
		{"\xff\xff\xff\xff\xff\xff", 0, 0, 0, api.ErrRange},
		{"a\xff\xff\xff\xff\x8f\x00", 1, 0, 0, api.ErrRange},

		{"\x80\x00", 0, 0, 0, api.ErrForm},
		{"\xff\x00\x01", 0, 0, 0, api.ErrForm},
		{"\x80\x80\x00", 0, 0, 0, api.ErrForm},
		{"\x80\x80\x80\x00", 0, 0, 0, api.ErrForm},
		{"\x80\x80\x80\x80\x00", 0, 0, 0, api.ErrForm},
	} {
		n, next, e := octet.Get(x.s, x.at)
		if n != x.n || next != x.next || e != x.e {
			t.Errorf("Get(%x, %d) = %d, %d, %d", x.s, x.at, n, next, e)
		}
	}
}

// P1.1: of the fifth byte 1 to 15 are a number, 0 is none, and all others are too much.
func TestGetFifthByte(t *testing.T) {
	for b := range 256 {
		want := api.ErrRange
		switch {
		case b == 0:
			want = api.ErrForm
		case b < 16:
			want = api.OK
		}
		n, next, e := octet.Get("\x80\x80\x80\x80"+string([]byte{byte(b)}), 0)
		if e != want {
			t.Errorf("fifth byte %x: %d, want %d", b, e, want)
		}
		if e == api.OK && (n != uint32(b)<<28 || next != 5) || e != api.OK && (n != 0 || next != 0) {
			t.Errorf("fifth byte %x: %d, %d", b, n, next)
		}
	}
}

// P1.1: of all texts of two bytes.
func TestGetTwoBytes(t *testing.T) {
	for a := range 256 {
		for b := range 256 {
			n, next, e := octet.Get(string([]byte{byte(a), byte(b)}), 0)
			wantN, wantNext, want := uint32(a), 1, api.OK
			switch {
			case a < 128:
			case b == 0:
				wantN, wantNext, want = 0, 0, api.ErrForm
			case b < 128:
				wantN, wantNext = uint32(a-128+128*b), 2
			default:
				wantN, wantNext, want = 0, 0, api.ErrEnd
			}
			if n != wantN || next != wantNext || e != want {
				t.Errorf("Get(%02x %02x) = %d, %d, %d", a, b, n, next, e)
			}
		}
	}
}

// P1.1, P1.2, P1.3: a place below 0, or behind the end, whatever the text is.
func TestNoPlace(t *testing.T) {
	for _, s := range []string{"", "\x01", "12", "a\n", "\n", "\x80"} {
		for _, at := range noPlaces(len(s)) {
			if n, next, e := octet.Get(s, at); n != 0 || next != 0 || e != api.ErrArg {
				t.Errorf("Get(%q, %d) = %d, %d, %d", s, at, n, next, e)
			}
			if n, next, e := octet.Nat(s, at); n != 0 || next != 0 || e != api.ErrArg {
				t.Errorf("Nat(%q, %d) = %d, %d, %d", s, at, n, next, e)
			}
			if l, next, e := octet.Line(s, at); l != "" || next != 0 || e != api.ErrArg {
				t.Errorf("Line(%q, %d) = %q, %d, %d", s, at, l, next, e)
			}
		}
	}
}

// P1.2: decimal digits, - ahead below 0.
func TestDec(t *testing.T) {
	for _, x := range []struct {
		n    int
		want string
	}{
		{0, "0"}, {7, "7"}, {9, "9"}, {10, "10"}, {100, "100"}, {1048576, "1048576"},
		{-1, "-1"}, {-10, "-10"}, {-907, "-907"},
		{math.MaxInt64, "9223372036854775807"}, {math.MinInt64, "-9223372036854775808"},
	} {
		if got := octet.Dec(x.n); got != x.want {
			t.Errorf("Dec(%d) = %q, want %q", x.n, got, x.want)
		}
	}
}

// P1.2: what Nat tells of good numbers, and of each error.
func TestNat(t *testing.T) {
	for _, x := range []struct {
		s    string
		at   int
		n    int
		next int
		e    api.Errno
	}{
		{"0", 0, 0, 1, api.OK},
		{"0 1", 0, 0, 1, api.OK},
		{"0x", 0, 0, 1, api.OK},
		{"7", 0, 7, 1, api.OK},
		{"42\n", 0, 42, 2, api.OK},
		{"1234567890", 1, 234567890, 10, api.OK},
		{"x105y", 1, 105, 4, api.OK},
		{"10", 1, 0, 2, api.OK},
		{"100000000", 0, 100000000, 9, api.OK},
		{"999999999 9", 0, 999999999, 9, api.OK},
		{"8/", 0, 8, 1, api.OK},
		{"9:", 0, 9, 1, api.OK},

		{"", 0, 0, 0, api.ErrEnd},
		{"12", 2, 0, 0, api.ErrEnd},

		{"x", 0, 0, 0, api.ErrForm},
		{" 1", 0, 0, 0, api.ErrForm},
		{"-1", 0, 0, 0, api.ErrForm},
		{"+1", 0, 0, 0, api.ErrForm},
		{"/", 0, 0, 0, api.ErrForm},
		{":", 0, 0, 0, api.ErrForm},
		{"\n", 0, 0, 0, api.ErrForm},
		{"\xff", 0, 0, 0, api.ErrForm},
		{"٣", 0, 0, 0, api.ErrForm},
		{"00", 0, 0, 0, api.ErrForm},
		{"07", 0, 0, 0, api.ErrForm},
		{"0123456789", 0, 0, 0, api.ErrForm},
		{"0000000000", 0, 0, 0, api.ErrForm},

		{"1000000000", 0, 0, 0, api.ErrRange},
		{"1000000000x", 0, 0, 0, api.ErrRange},
		{"a9999999999", 1, 0, 0, api.ErrRange},
		{"18446744073709551617", 0, 0, 0, api.ErrRange},
		{strings.Repeat("1", 10000), 0, 0, 0, api.ErrRange},
	} {
		n, next, e := octet.Nat(x.s, x.at)
		if n != x.n || next != x.next || e != x.e {
			t.Errorf("Nat(%q, %d) = %d, %d, %d", x.s, x.at, n, next, e)
		}
	}
}

// P1.2: just the signs 0 to 9 are digits.
func TestNatSigns(t *testing.T) {
	for b := range 256 {
		n, next, e := octet.Nat(string([]byte{'1', byte(b)}), 0)
		wantN, wantNext := 1, 1
		if b >= '0' && b <= '9' {
			wantN, wantNext = 10+b-'0', 2
		}
		if n != wantN || next != wantNext || e != api.OK {
			t.Errorf("Nat of 1 and the byte %x: %d, %d, %d", b, n, next, e)
		}
	}
}

// P1.3: a line ends with a line feed, and with nothing else.
func TestLine(t *testing.T) {
	for _, x := range []struct {
		s    string
		at   int
		line string
		next int
		e    api.Errno
	}{
		{"\n", 0, "", 1, api.OK},
		{"ab\n", 0, "ab", 3, api.OK},
		{"ab\n", 1, "b", 3, api.OK},
		{"ab\n", 2, "", 3, api.OK},
		{"ab\n\ncd\n", 0, "ab", 3, api.OK},
		{"ab\n\ncd\n", 3, "", 4, api.OK},
		{"ab\n\ncd\n", 4, "cd", 7, api.OK},
		{" a \r\n", 0, " a \r", 5, api.OK},
		{"\x00\xff\n", 0, "\x00\xff", 3, api.OK},

		{"", 0, "", 0, api.ErrEnd},
		{"ab", 0, "", 0, api.ErrEnd},
		{"ab\r", 0, "", 0, api.ErrEnd},
		{"ab\n", 3, "", 0, api.ErrEnd},
		{"ab\ncd", 3, "", 0, api.ErrEnd},
	} {
		line, next, e := octet.Line(x.s, x.at)
		if line != x.line || next != x.next || e != x.e {
			t.Errorf("Line(%q, %d) = %q, %d, %d", x.s, x.at, line, next, e)
		}
	}
}

// P1.3: words stand between blanks, also where nothing does.
func TestWords(t *testing.T) {
	for _, x := range []struct {
		s    string
		want []string
	}{
		{"", []string{""}},
		{" ", []string{"", ""}},
		{"  ", []string{"", "", ""}},
		{"a", []string{"a"}},
		{"a b", []string{"a", "b"}},
		{" a", []string{"", "a"}},
		{"a ", []string{"a", ""}},
		{" a  b ", []string{"", "a", "", "b", ""}},
		{"a\tb\nc\u00a0d e", []string{"a\tb\nc\u00a0d", "e"}},
		{"\xff \x80", []string{"\xff", "\x80"}},
	} {
		if got := octet.Words(x.s); !slices.Equal(got, x.want) {
			t.Errorf("Words(%q) = %q, want %q", x.s, got, x.want)
		}
	}
}

// P1.4: a truth for each byte, and no other byte than 0 and 1.
func TestBits(t *testing.T) {
	for _, x := range []struct {
		s    string
		want []bool
		e    api.Errno
	}{
		{"", nil, api.OK},
		{"0", []bool{false}, api.OK},
		{"1", []bool{true}, api.OK},
		{"0110", []bool{false, true, true, false}, api.OK},
		{"x", nil, api.ErrForm},
		{"01x", nil, api.ErrForm},
		{"x01", nil, api.ErrForm},
		{"0 1", nil, api.ErrForm},
		{"01\n", nil, api.ErrForm},
		{"2", nil, api.ErrForm},
		{"1\x00", nil, api.ErrForm},
	} {
		got, e := octet.Bits(x.s)
		if !slices.Equal(got, x.want) || e != x.e {
			t.Errorf("Bits(%q) = %v, %d", x.s, got, e)
		}
	}
}

// P1.4: of all single bytes two are signs.
func TestBitsSigns(t *testing.T) {
	for b := range 256 {
		got, e := octet.Bits(string([]byte{byte(b)}))
		switch b {
		case '0', '1':
			if e != api.OK || !slices.Equal(got, []bool{b == '1'}) {
				t.Errorf("Bits of the byte %x: %v, %d", b, got, e)
			}
		default:
			if e != api.ErrForm || len(got) != 0 {
				t.Errorf("Bits of the byte %x: %v, %d", b, got, e)
			}
		}
	}
}

// P1.4: Text is Bits the other way round.
func TestText(t *testing.T) {
	for _, x := range []struct {
		l    []bool
		want string
	}{
		{nil, ""}, {[]bool{}, ""}, {[]bool{false}, "0"}, {[]bool{true}, "1"},
		{[]bool{false, true, true, false}, "0110"},
	} {
		if got := octet.Text(x.l); got != x.want {
			t.Errorf("Text(%v) = %q, want %q", x.l, got, x.want)
		}
	}
}

// P1.5: what is put is got, wherever it stands.
func TestNumIsGot(t *testing.T) {
	for _, want := range drawn() {
		num := octet.Num(want)
		for _, ahead := range []string{"", "\x80", "aig\n"} {
			for _, behind := range []string{"", "\x00", "\xff"} {
				n, next, e := octet.Get(ahead+num+behind, len(ahead))
				if n != want || next != len(ahead+num) || e != api.OK {
					t.Errorf("Get of Num(%d) = %d, %d, %d", want, n, next, e)
				}
			}
		}
		for cut := range len(num) {
			if n, next, e := octet.Get(num[:cut], 0); n != 0 || next != 0 || e != api.ErrEnd {
				t.Errorf("Get of %d bytes of Num(%d) = %d, %d, %d", cut, want, n, next, e)
			}
		}
	}
}

// P1.5: what is got is what was put, byte by byte.
func TestGotIsNum(t *testing.T) {
	for _, x := range drawn() {
		s := string([]byte{byte(x), byte(x >> 8), byte(x >> 16), byte(x >> 24), byte(x >> 5)})
		n, next, e := octet.Get(s, 0)
		if e == api.OK && octet.Num(n) != s[:next] {
			t.Errorf("Get(%x) = %d, whose Num is %x", s, n, octet.Num(n))
		}
	}
}

// P1.5: digits that are written are read.
func TestDecIsRead(t *testing.T) {
	for _, x := range drawn() {
		want := int(x % 1000000000)
		s := octet.Dec(want)
		n, next, e := octet.Nat("a"+s+" 1", 1)
		if n != want || next != len(s)+1 || e != api.OK {
			t.Errorf("Nat of Dec(%d) = %d, %d, %d", want, n, next, e)
		}
	}
}

// P1.5: lines, each with its line feed, are the text.
func TestLinesAreTheText(t *testing.T) {
	for _, s := range []string{"\n", "a\nb\n", "\n\nab\n\n", "a b\n c\n"} {
		joined := ""
		for at := 0; at < len(s); {
			line, next, e := octet.Line(s, at)
			if e != api.OK {
				t.Fatalf("Line(%q, %d): %d", s, at, e)
			}
			joined += line + "\n"
			at = next
		}
		if joined != s {
			t.Errorf("lines of %q make %q", s, joined)
		}
	}
}

// P1.5: the words, with a blank between each two, are the text; no word has one.
func TestWordsAreTheText(t *testing.T) {
	signs := "a \n"
	for code := range 3 * 3 * 3 * 3 * 3 * 3 {
		s := ""
		for rest := code; rest > 0; rest /= 3 {
			s += string(signs[rest%3])
		}
		words := octet.Words(s)
		if strings.Join(words, " ") != s {
			t.Errorf("words of %q are %q", s, words)
		}
		if slices.ContainsFunc(words, func(w string) bool { return strings.Contains(w, " ") }) {
			t.Errorf("words of %q are %q", s, words)
		}
	}
}

// P1.5: truths that are told are read.
func TestTextIsRead(t *testing.T) {
	for many := range 9 {
		for code := range 1 << many {
			l := make([]bool, many)
			for i := range l {
				l[i] = code>>i&1 == 1
			}
			before := slices.Clone(l)
			s := octet.Text(l)
			got, e := octet.Bits(s)
			if e != api.OK || !slices.Equal(got, l) || !slices.Equal(l, before) || octet.Text(got) != s {
				t.Errorf("Bits of Text(%v) = %v, %d", before, got, e)
			}
		}
	}
}

// The rule on memory: what is answered twice is in memory of its own each time.
func TestAnswersAreNew(t *testing.T) {
	a, _ := octet.Bits("01")
	b, _ := octet.Bits("01")
	a[0], a[1] = true, false
	if octet.Text(b) != "01" {
		t.Errorf("truths are shared: %v", b)
	}
	v, w := octet.Words("a b"), octet.Words("a b")
	v[0] = "c"
	if w[0] != "a" {
		t.Errorf("words are shared: %q", w)
	}
}

// Package octet is layer 1: see shared/doc/01-octet.md.
package octet

import (
	"strconv"
	"strings"

	"latchet/api"
)

const (
	// Of 32 bits just four are left to the fifth digit of seven bits.
	numBytes = 5
	fifthEnd = 16

	natDigits = 9
)

// Num is a number by digits of seven bits.
func Num(n uint32) string {
	var digits []byte
	for n >= 128 {
		digits = append(digits, byte(n%128)+128)
		n /= 128
	}
	return string(append(digits, byte(n)))
}

// Get is the number at a place.
func Get(s string, at int) (uint32, int, api.Errno) {
	if !isPlace(s, at) {
		return 0, 0, api.ErrArg
	}
	var n uint32
	for i := range numBytes {
		if at+i == len(s) {
			return 0, 0, api.ErrEnd
		}
		b := s[at+i]
		if i == numBytes-1 && b >= fifthEnd {
			break
		}
		// A last digit of 0 would be a byte more than it takes.
		if i > 0 && b == 0 {
			return 0, 0, api.ErrForm
		}
		n += uint32(b%128) << (7 * i)
		if b < 128 {
			return n, at + i + 1, api.OK
		}
	}
	return 0, 0, api.ErrRange
}

// Dec is a number in digits.
func Dec(n int) string { return strconv.Itoa(n) }

// Nat is the number whose digits stand at a place.
func Nat(s string, at int) (int, int, api.Errno) {
	if !isPlace(s, at) {
		return 0, 0, api.ErrArg
	}
	if at == len(s) {
		return 0, 0, api.ErrEnd
	}
	end := digitsEnd(s, at)
	many := end - at
	if many == 0 || many > 1 && s[at] == '0' {
		return 0, 0, api.ErrForm
	}
	if many > natDigits {
		return 0, 0, api.ErrRange
	}
	n := 0
	for i := range many {
		n = 10*n + int(s[at+i]-'0')
	}
	return n, end, api.OK
}

// Line is the line at a place.
func Line(s string, at int) (string, int, api.Errno) {
	if !isPlace(s, at) {
		return "", 0, api.ErrArg
	}
	many := strings.IndexByte(s[at:], '\n')
	if many < 0 {
		return "", 0, api.ErrEnd
	}
	end := at + many
	// An answer shares no memory with an argument.
	return strings.Clone(s[at:end]), end + 1, api.OK
}

// Words is what stands between blanks.
func Words(s string) []string {
	// An answer shares no memory with an argument.
	return strings.Split(strings.Clone(s), " ")
}

// Bits is truths of signs.
func Bits(s string) ([]bool, api.Errno) {
	l := make([]bool, len(s))
	for i := range len(s) {
		switch s[i] {
		case '0':
		case '1':
			l[i] = true
		default:
			return nil, api.ErrForm
		}
	}
	return l, api.OK
}

// Text is signs of truths.
func Text(l []bool) string {
	signs := make([]byte, len(l))
	for i, one := range l {
		signs[i] = '0'
		if one {
			signs[i] = '1'
		}
	}
	return string(signs)
}

// isPlace tells whether at is a place in s, or the one at its end.
func isPlace(s string, at int) bool { return at >= 0 && at <= len(s) }

// digitsEnd is the place behind all digits that stand at a place.
func digitsEnd(s string, at int) int {
	for at < len(s) && s[at] >= '0' && s[at] <= '9' {
		at++
	}
	return at
}

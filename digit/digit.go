// Package digit is layer 1: see shared/doc/01-digit.md.
package digit

import "strconv"

const (
	// mostDecimal is the greatest number that is a decimal.
	mostDecimal = 999999999
	// mostLead is what Lead tells of any number that is greater.
	mostLead = 1000000000
	// mostHex is how many digits of 16 may stand in a text.
	mostHex = 6
	// mostFilled is up to how many digits of 16 a number is filled with 0.
	mostFilled = 8
)

// digits16 has at 0 to 15 the digits of 16 by their number, the letters small; behind these the capital ones.
var digits16 = [22]byte{
	'0', '1', '2', '3', '4', '5', '6', '7', '8', '9',
	'a', 'b', 'c', 'd', 'e', 'f',
	'A', 'B', 'C', 'D', 'E', 'F',
}

// Lead tells the number that a text begins with, at most 1000000000, and how many bytes it is.
func Lead(s string) (int, int) {
	n := 0
	for i := range len(s) {
		if s[i] < '0' || s[i] > '9' {
			return n, i
		}
		// Held against a tenth, so that no greater number is ever made.
		if n >= mostLead/10 {
			n = mostLead
		} else {
			n = n*10 + int(s[i]-'0')
		}
	}
	return n, len(s)
}

// Parse tells a decimal's number.
func Parse(s string) (int, bool) {
	n, length := Lead(s)
	if length == 0 || length < len(s) || n > mostDecimal {
		return 0, false
	}
	if s[0] == '0' && length > 1 {
		return 0, false
	}
	return n, true
}

// Text tells a number's digits.
func Text(n int) string { return strconv.Itoa(n) }

// Hex tells a number by its digits of 16.
func Hex(s string) (int, bool) {
	if len(s) == 0 || len(s) > mostHex {
		return 0, false
	}
	n := 0
	for i := range len(s) {
		v, ok := value16(s[i])
		if !ok {
			return 0, false
		}
		n = n*16 + v
	}
	return n, true
}

// value16 tells the number of a digit of 16.
func value16(c byte) (int, bool) {
	for i := range len(digits16) {
		if digits16[i] != c {
			continue
		}
		if i >= 16 {
			return i - 6, true
		}
		return i, true
	}
	return 0, false
}

// HexText tells a number's digits of 16.
func HexText(n int, least int) string {
	// No number has more digits of 16 than a word has bits by four.
	var row [strconv.IntSize / 4]byte
	left := max(n, 0)
	least = min(least, mostFilled)
	at := len(row)
	for i := range len(row) {
		if i > 0 && left == 0 && i >= least {
			break
		}
		at--
		row[at] = digits16[left%16]
		left /= 16
	}
	return string(row[at:])
}

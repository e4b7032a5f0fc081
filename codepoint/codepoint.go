// Package codepoint is layer 1: code points, their notation, and the order of texts.
package codepoint

import "unicodetext/api"

const (
	firstSurrogate    = 0xD800
	lastSurrogate     = 0xDFFF
	firstNoncharacter = 0xFDD0
	lastNoncharacter  = 0xFDEF
	planeSize         = 0x10000
	fewestDigits      = 4
	mostDigits        = 6
)

var hexDigits = [16]byte{'0', '1', '2', '3', '4', '5', '6', '7', '8', '9', 'A', 'B', 'C', 'D', 'E', 'F'}

// Valid reports whether c is a code point.
func Valid(c int) bool {
	return 0 <= c && c <= api.MaxCode
}

// Scalar reports whether c is a scalar value: a code point that is not a surrogate.
func Scalar(c int) bool {
	return Valid(c) && !Surrogate(c)
}

// Surrogate reports whether c is a surrogate.
func Surrogate(c int) bool {
	return firstSurrogate <= c && c <= lastSurrogate
}

// Noncharacter reports whether c is a noncharacter.
func Noncharacter(c int) bool {
	if !Valid(c) {
		return false
	}
	return firstNoncharacter <= c && c <= lastNoncharacter || c%planeSize >= planeSize-2
}

// Plane returns the plane of the code point c, or -1 if c is no code point.
func Plane(c int) int {
	if !Valid(c) {
		return -1
	}
	return c / planeSize
}

// Hex returns the hexadecimal notation of the code point c, or the empty string if c is no code point.
func Hex(c int) string {
	if !Valid(c) {
		return ""
	}
	var digits [mostDigits]byte
	first := mostDigits
	for c > 0 || first > mostDigits-fewestDigits {
		first--
		digits[first] = hexDigits[c%16]
		c /= 16
	}
	return string(digits[first:])
}

// Parse returns the code point whose notation by Hex is s; ErrSyntax if there is none.
func Parse(s string) (int, api.Errno) {
	if len(s) < fewestDigits || len(s) > mostDigits {
		return 0, api.ErrSyntax
	}
	if len(s) > fewestDigits && s[0] == '0' {
		return 0, api.ErrSyntax
	}
	c := 0
	for i := range len(s) {
		digit := digitValue(s[i])
		if digit < 0 {
			return 0, api.ErrSyntax
		}
		c = c*16 + digit
	}
	if !Valid(c) {
		return 0, api.ErrSyntax
	}
	return c, api.OK
}

// digitValue returns the value of a hexadecimal digit, or -1 if b is none.
func digitValue(b byte) int {
	for value, digit := range hexDigits {
		if digit == b {
			return value
		}
	}
	return -1
}

// Compare compares two sequences lexicographically; it returns -1, 0 or 1.
func Compare(a, b []int) int {
	for i := range min(len(a), len(b)) {
		if a[i] != b[i] {
			return order(a[i], b[i])
		}
	}
	return order(len(a), len(b))
}

// order compares without subtracting, because the difference of two ints may overflow.
func order(a, b int) int {
	switch {
	case a < b:
		return -1
	case a > b:
		return 1
	}
	return 0
}

// Equal reports whether two sequences are the same.
func Equal(a, b []int) bool {
	return Compare(a, b) == 0
}

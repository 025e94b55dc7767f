// Package num lays numbers and texts into bytes.
package num

import (
	"strconv"
	"strings"

	"cornucopia/api"
)

// Fix tells a number in so many bytes, the highest first.
func Fix(v uint64, n int) (string, api.Errno) {
	// A shift by all 64 bits leaves 0, so of 8 bytes no number is too great.
	if !isWidth(n) || v>>(8*n) != 0 {
		return "", api.ErrArg
	}
	b := make([]byte, n)
	for i := range n {
		b[i] = byte(v >> (8 * (n - 1 - i)))
	}
	return string(b), api.OK
}

// Unfix tells the number of the n bytes that stand from at on.
func Unfix(b string, at, n int) (uint64, api.Errno) {
	if !isWidth(n) || at < 0 {
		return 0, api.ErrArg
	}
	// Not at+n: that may wrap round.
	if at > len(b) || len(b)-at < n {
		return 0, api.ErrShort
	}
	v := uint64(0)
	for i := range n {
		v = v<<8 | uint64(b[at+i])
	}
	return v, api.OK
}

func isWidth(n int) bool { return 1 <= n && n <= 8 }

// Var tells numbers in as few bytes as it takes: groups of seven bits, the lowest first.
func Var(l ...uint64) string {
	var b []byte
	for _, v := range l {
		b = appendVar(b, v)
	}
	return string(b)
}

func appendVar(b []byte, v uint64) []byte {
	for v >= 128 {
		b = append(b, byte(v)|128)
		v >>= 7
	}
	return append(b, byte(v))
}

// Zig tells an int as a number without a sign: small ones, of either sign, stay small.
func Zig(v int) uint64 {
	// The sign, shifted in everywhere, turns every bit of 2v if v is below 0: -2v - 1.
	return uint64(v)<<1 ^ uint64(int64(v)>>63)
}

// Zag tells back what Zig told.
func Zag(u uint64) int {
	return int(u>>1) ^ -int(u&1)
}

// Text tells texts, each behind its length.
func Text(l ...string) string {
	var b []byte
	for _, s := range l {
		b = appendVar(b, uint64(len(s)))
		b = append(b, s...)
	}
	return string(b)
}

// Bool tells a truth as a byte.
func Bool(v bool) string {
	if v {
		return "\x01"
	}
	return "\x00"
}

// Digits tells an int in decimal digits.
func Digits(v int) string { return strconv.Itoa(v) }

// mostDigits is how many digits Number takes: with so many no int wraps round.
const mostDigits = 18

// Number tells the int of decimal digits, if they are written the one way Digits has.
func Number(s string) (int, api.Errno) {
	digits, below := strings.CutPrefix(s, "-")
	if !isPlain(digits) || below && digits == "0" {
		return 0, api.ErrArg
	}
	v := 0
	for i := range len(digits) {
		v = v*10 + int(digits[i]-'0')
	}
	if below {
		return -v, api.OK
	}
	return v, api.OK
}

// isPlain tells whether s is 1 to mostDigits digits, without a 0 ahead of others.
func isPlain(s string) bool {
	if len(s) < 1 || len(s) > mostDigits {
		return false
	}
	for i := range len(s) {
		if s[i] < '0' || s[i] > '9' {
			return false
		}
	}
	return s[0] != '0' || len(s) == 1
}

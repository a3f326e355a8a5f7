// Package words is layer 1: it reads and writes names, decimal numbers, quoted strings, lines of fields, and lists of numbers. See shared/doc/01-words.md.
package words

import (
	"strconv"
	"strings"

	"dragnet/api"
)

// Name reports whether s is a name.
func Name(s string) bool {
	if s == "" || len(s) > api.MaxWord || !small(s[0]) {
		return false
	}
	for i := range len(s) {
		if !small(s[i]) && !digit(s[i]) && s[i] != '-' {
			return false
		}
	}
	return true
}

// Int reads the decimal form of an integer from low to high.
func Int(s string, low, high int64) (int64, api.Errno) {
	if !integer(s) {
		return 0, api.ErrForm
	}
	n, err := strconv.ParseInt(s, 10, 64)
	// The form is right, so an error means that no int64 is so large.
	if err != nil || n < low || n > high {
		return 0, api.ErrRange
	}
	return n, api.OK
}

// Digits returns the decimal form of n.
func Digits(n int64) string {
	return strconv.FormatInt(n, 10)
}

func small(b byte) bool { return 'a' <= b && b <= 'z' }

func digit(b byte) bool { return '0' <= b && b <= '9' }

// natural reports whether s is the decimal form of an integer that is not negative.
func natural(s string) bool {
	if s == "" || s[0] == '0' && len(s) > 1 {
		return false
	}
	for i := range len(s) {
		if !digit(s[i]) {
			return false
		}
	}
	return true
}

// integer reports whether s is the decimal form of an integer. Zero has no minus sign.
func integer(s string) bool {
	rest, negative := strings.CutPrefix(s, "-")
	return natural(rest) && !(negative && rest == "0")
}

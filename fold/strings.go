package fold

import (
	"cmp"

	"dragnet/api"
)

// Alike returns whether two strings are the same, but for the case of letters.
func Alike(a, b string) bool {
	return Compare(a, b) == 0
}

// Key returns the small form of a string.
func Key(s string) string {
	return string(each(s, Lower))
}

// Compare compares the small forms of two strings, by bytes.
func Compare(a, b string) int {
	return compareBy(a, b, onBytes(symbol.small))
}

// Sets returns for each byte of a string the set of those that are the same letter.
func Sets(s string) ([]api.ClSet, api.Errno) {
	if len(s) > api.MaxFold {
		return nil, api.ErrLong
	}
	return each(s, Both), api.OK
}

// each returns what a function makes of the bytes of a string, in order.
func each[T any](s string, of func(byte) T) []T {
	l := make([]T, len(s))
	for i := range len(s) {
		l[i] = of(s[i])
	}
	return l
}

// compareBy compares two strings by the keys of their bytes: the first keys that differ tell, or else the lengths.
func compareBy[K cmp.Ordered](a, b string, key func(byte) K) int {
	for i := range min(len(a), len(b)) {
		if c := cmp.Compare(key(a[i]), key(b[i])); c != 0 {
			return c
		}
	}
	return cmp.Compare(len(a), len(b))
}

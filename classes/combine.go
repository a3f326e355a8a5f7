package classes

import "dragnet/api"

// Union returns the set of the bytes that are in a or b.
func Union(a, b api.ClSet) api.ClSet {
	return combine(a, b, func(x, y uint64) uint64 { return x | y })
}

// Meet returns the set of the bytes that are in both.
func Meet(a, b api.ClSet) api.ClSet {
	return combine(a, b, func(x, y uint64) uint64 { return x & y })
}

// Minus returns the set of the bytes that are in a, and not in b.
func Minus(a, b api.ClSet) api.ClSet {
	return combine(a, b, func(x, y uint64) uint64 { return x &^ y })
}

// Not returns the set of the bytes that are not in s.
func Not(s api.ClSet) api.ClSet {
	return combine(s, s, func(x, _ uint64) uint64 { return ^x })
}

// Sub returns whether all bytes of a are in b.
func Sub(a, b api.ClSet) bool {
	return Union(a, b) == b
}

// combine returns the set of what each makes of two words in the same place.
func combine(a, b api.ClSet, each func(x, y uint64) uint64) api.ClSet {
	var s api.ClSet
	for i := range s {
		s[i] = each(a[i], b[i])
	}
	return s
}

package fold

import (
	"dragnet/api"
	"dragnet/classes"
)

// Closed returns whether with each byte of a set all those that are the same letter are in it.
func Closed(s api.ClSet) bool {
	return Close(s) == s
}

// Close returns the least closed set in which s is.
func Close(s api.ClSet) api.ClSet {
	var closed api.ClSet
	for _, b := range classes.List(s) {
		closed = classes.Union(closed, Both(b))
	}
	return closed
}

// Open returns the greatest closed set that is in s.
func Open(s api.ClSet) api.ClSet {
	// A set is closed exactly if its complement is.
	return classes.Not(Close(classes.Not(s)))
}

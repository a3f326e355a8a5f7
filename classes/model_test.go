package classes_test

import (
	"testing"

	"dragnet/api"
)

// model is a set of bytes by definition: whether each byte is in it.
type model [256]bool

// modelOf returns the model of the set of these bytes.
func modelOf(b ...byte) model {
	var m model
	for _, c := range b {
		m[c] = true
	}
	return m
}

// set returns the array of words that the document gives to this set.
func (m model) set() api.ClSet {
	var s api.ClSet
	for b := range 256 {
		if m[b] {
			s[b/64] += 1 << (b % 64)
		}
	}
	return s
}

// bytes returns the bytes of the set, ascending.
func (m model) bytes() []byte {
	var l []byte
	for b := range 256 {
		if m[b] {
			l = append(l, byte(b))
		}
	}
	return l
}

// only returns the set of the bytes for which the function is true.
func only(in func(b int) bool) model {
	var m model
	for b := range 256 {
		m[b] = in(b)
	}
	return m
}

// someModels are the empty set, the set of all bytes, single bytes, ranges at the ends of words, sets of 127 to 129 bytes, and mixed ones.
func someModels() []model {
	all := []model{
		{},
		only(func(b int) bool { return true }),
		modelOf('a', 'b', 'c', 'x', '0'),
		modelOf('-', '^'),
		modelOf('a', 'b'),
		modelOf('[', ']', '\\', '^', '-'),
		modelOf(0), modelOf(255), modelOf(0, 255), modelOf(63, 64), modelOf(127, 128), modelOf(191, 192),
		only(func(b int) bool { return b != ' ' }),
		only(func(b int) bool { return b%2 == 0 }),
		only(func(b int) bool { return b%2 == 1 }),
		only(func(b int) bool { return b%3 == 0 }),
		only(func(b int) bool { return b < 127 }),
		only(func(b int) bool { return b < 128 }),
		only(func(b int) bool { return b < 129 }),
		only(func(b int) bool { return b >= 127 }),
		only(func(b int) bool { return b >= 128 }),
		only(func(b int) bool { return b%2 == 0 || b == 255 }),
		only(func(b int) bool { return 60 <= b && b < 200 }),
		only(func(b int) bool { return b < 33 || b > 126 }),
	}
	x := uint32(1)
	for n := range 40 {
		all = append(all, only(func(b int) bool {
			x = x*1664525 + 1013904223
			return int(x>>28) <= n%16
		}))
	}
	return all
}

// must fails if an error is returned.
func must(t *testing.T, what string, e api.Errno) {
	t.Helper()
	if e != api.OK {
		t.Fatalf("%s: error %d", what, e)
	}
}

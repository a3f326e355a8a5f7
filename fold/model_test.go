package fold_test

import (
	"math/rand"
	"strings"

	"dragnet/api"
)

const (
	capitals = "ABCDEFGHIJKLMNOPQRSTUVWXYZ"
	smalls   = "abcdefghijklmnopqrstuvwxyz"
)

// smallOf is the small form of a byte, found in the two alphabets.
func smallOf(b byte) byte {
	if i := strings.IndexByte(capitals, b); i >= 0 {
		return smalls[i]
	}
	return b
}

// keyOf is the small form of a string.
func keyOf(s string) string {
	b := []byte(s)
	for i := range b {
		b[i] = smallOf(b[i])
	}
	return string(b)
}

// alikeBytes returns whether two bytes are equal, or one is the letter of the other case of the other one.
func alikeBytes(a, b byte) bool {
	return a == b || capitalOf(a, b) || capitalOf(b, a)
}

// capitalOf returns whether a is the capital letter of the small letter b.
func capitalOf(a, b byte) bool {
	i := strings.IndexByte(capitals, a)
	return i >= 0 && smalls[i] == b
}

// alikeStrings returns whether two strings are alike, by definition.
func alikeStrings(a, b string) bool {
	if len(a) != len(b) {
		return false
	}
	for i := range len(a) {
		if !alikeBytes(a[i], b[i]) {
			return false
		}
	}
	return true
}

// in returns whether a byte is in a set, by the definition of api.ClSet.
func in(s api.ClSet, b byte) bool {
	return s[b/64]>>(b%64)&1 == 1
}

// only returns the set of the bytes for which the function is true.
func only(is func(b byte) bool) api.ClSet {
	var s api.ClSet
	for i := range 256 {
		if is(byte(i)) {
			s[i/64] += 1 << (i % 64)
		}
	}
	return s
}

// setOf returns the set of the bytes of a string.
func setOf(members string) api.ClSet {
	return only(func(b byte) bool { return strings.IndexByte(members, b) >= 0 })
}

// allBytes returns the set of all bytes.
func allBytes() api.ClSet {
	return only(func(byte) bool { return true })
}

// someSets are sets of no, of single, of most and of all bytes, letters of one case, bytes beside letters, and random ones.
func someSets() []api.ClSet {
	l := []api.ClSet{
		{}, allBytes(), setOf(capitals), setOf(smalls), setOf(capitals + smalls), setOf("a1"), setOf("aAb"), setOf("@[`{"), setOf("@A[`az{"),
		setOf("\xc1\xe1\x01\x21\x9a"), only(func(b byte) bool { return b < 128 }), only(func(b byte) bool { return b >= 128 }),
		only(func(b byte) bool { return b%2 == 0 }), only(func(b byte) bool { return b < 'k' }), only(func(b byte) bool { return b > 'K' }),
	}
	for i := range 256 {
		l = append(l, only(func(b byte) bool { return int(b) == i }), only(func(b byte) bool { return int(b) != i }))
	}
	r := rand.New(rand.NewSource(1))
	for range 60 {
		few := r.Intn(10)
		l = append(l, only(func(byte) bool { return r.Intn(10) < few }))
	}
	return l
}

// stringsOver returns every string of at most longest bytes of the alphabet.
func stringsOver(alphabet string, longest int) []string {
	all := []string{""}
	last := all
	for range longest {
		var longer []string
		for _, s := range last {
			for i := range len(alphabet) {
				longer = append(longer, s+alphabet[i:i+1])
			}
		}
		all = append(all, longer...)
		last = longer
	}
	return all
}

// anyString returns a string of bytes of all kinds, most of them letters.
func anyString(r *rand.Rand, longest int) string {
	b := make([]byte, r.Intn(longest+1))
	for i := range b {
		b[i] = byte(r.Intn(256))
		if r.Intn(3) > 0 {
			b[i] = (capitals + smalls)[r.Intn(52)]
		}
	}
	return string(b)
}

// recased returns a string that is alike to s.
func recased(r *rand.Rand, s string) string {
	b := []byte(s)
	for i, c := range b {
		for d := range 256 {
			if alikeBytes(c, byte(d)) && r.Intn(2) == 0 {
				b[i] = byte(d)
			}
		}
	}
	return string(b)
}

// sign returns -1, 0 or 1 for a string that is less than another one, equal, or greater, by bytes.
func sign(a, b string) int {
	if a < b {
		return -1
	}
	if a > b {
		return 1
	}
	return 0
}

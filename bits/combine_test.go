package bits_test

import (
	"math/rand"
	"slices"
	"testing"

	"dragnet/api"
	"dragnet/bits"
)

// eachPair calls look for pairs of rows of the same length.
func eachPair(look func(a, b []uint64)) {
	r := rand.New(rand.NewSource(4))
	for n := 1; n <= 8; n++ {
		look(zeros(n), full(n))
		look(full(n), zeros(n))
		look(full(n), full(n))
		look(zeros(n), zeros(n))
		for range 100 {
			look(anyRow(r, n), anyRow(r, n))
		}
	}
}

// TestCombine compares And, Or and Not with what becomes of each bit.
func TestCombine(t *testing.T) {
	eachPair(func(a, b []uint64) {
		and, e1 := bits.And(a, b)
		or, e2 := bits.Or(a, b)
		not, e3 := bits.Not(a)
		if e1 != api.OK || e2 != api.OK || e3 != api.OK || len(and) != len(a) || len(or) != len(a) || len(not) != len(a) {
			t.Fatalf("And, Or, Not of %x and %x: %x, %d; %x, %d; %x, %d", a, b, and, e1, or, e2, not, e3)
		}
		la, lb := plainBits(a), plainBits(b)
		both, one, none := plainBits(and), plainBits(or), plainBits(not)
		for i := range la {
			if both[i] != (la[i] && lb[i]) || one[i] != (la[i] || lb[i]) || none[i] == la[i] {
				t.Fatalf("And, Or, Not of %x and %x at the bit %d: %x, %x, %x", a, b, i, and, or, not)
			}
		}
	})
}

// TestCombineErrors: the first row that is none comes first, then the second one, then rows that do not match.
func TestCombineErrors(t *testing.T) {
	type pair struct {
		a, b []uint64
		e    api.Errno
	}
	var pairs []pair
	for _, x := range badRows {
		for n := 1; n <= 8; n++ {
			pairs = append(pairs, pair{x.w, full(n), x.e}, pair{full(n), x.w, x.e})
		}
		for _, y := range badRows {
			pairs = append(pairs, pair{x.w, y.w, x.e})
		}
	}
	for n := 1; n <= 8; n++ {
		for m := 1; m <= 8; m++ {
			if n != m {
				pairs = append(pairs, pair{full(n), full(m), api.ErrForm}, pair{zeros(n), zeros(m), api.ErrForm})
			}
		}
	}
	for _, x := range pairs {
		if u, e := bits.And(x.a, x.b); len(u) != 0 || e != x.e {
			t.Errorf("And of %d and %d words: %x, %d", len(x.a), len(x.b), u, e)
		}
		if u, e := bits.Or(x.a, x.b); len(u) != 0 || e != x.e {
			t.Errorf("Or of %d and %d words: %x, %d", len(x.a), len(x.b), u, e)
		}
	}
}

// TestSets: Not of And is Or of Nots; a row and its Not have nothing in common and all together; counts add up (P2.7).
func TestSets(t *testing.T) {
	eachPair(func(a, b []uint64) {
		and, _ := bits.And(a, b)
		or, _ := bits.Or(a, b)
		notA, _ := bits.Not(a)
		notB, _ := bits.Not(b)
		left, _ := bits.Not(and)
		if right, e := bits.Or(notA, notB); !slices.Equal(left, right) || e != api.OK {
			t.Fatalf("Not of And of %x and %x: %x; Or of Nots: %x, %d", a, b, left, right, e)
		}
		if u, e := bits.And(a, notA); !slices.Equal(u, zeros(len(a))) || e != api.OK {
			t.Fatalf("And of %x and its Not: %x, %d", a, u, e)
		}
		if u, e := bits.Or(a, notA); !slices.Equal(u, full(len(a))) || e != api.OK {
			t.Fatalf("Or of %x and its Not: %x, %d", a, u, e)
		}
		inA, _ := bits.Count(a)
		inB, _ := bits.Count(b)
		inAnd, _ := bits.Count(and)
		inOr, _ := bits.Count(or)
		if inA+inB != inAnd+inOr {
			t.Fatalf("Count of %x, %x, And and Or: %d, %d, %d, %d", a, b, inA, inB, inAnd, inOr)
		}
	})
}

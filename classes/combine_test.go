package classes_test

import (
	"testing"

	"dragnet/api"
	"dragnet/classes"
)

// TestCombine: Union, Meet, Minus, Not and Sub, byte by byte (P3.2).
func TestCombine(t *testing.T) {
	for _, a := range someModels() {
		not := only(func(i int) bool { return !a[i] })
		if s := classes.Not(a.set()); s != not.set() {
			t.Fatalf("Not(%x) = %x", a.set(), s)
		}
		for _, b := range someModels() {
			union := only(func(i int) bool { return a[i] || b[i] })
			meet := only(func(i int) bool { return a[i] && b[i] })
			minus := only(func(i int) bool { return a[i] && !b[i] })
			if s := classes.Union(a.set(), b.set()); s != union.set() {
				t.Fatalf("Union(%x, %x) = %x", a.set(), b.set(), s)
			}
			if s := classes.Meet(a.set(), b.set()); s != meet.set() {
				t.Fatalf("Meet(%x, %x) = %x", a.set(), b.set(), s)
			}
			if s := classes.Minus(a.set(), b.set()); s != minus.set() {
				t.Fatalf("Minus(%x, %x) = %x", a.set(), b.set(), s)
			}
			if is := classes.Sub(a.set(), b.set()); is != (minus == model{}) {
				t.Fatalf("Sub(%x, %x) = %v", a.set(), b.set(), is)
			}
		}
	}
}

// TestSub: a set and one with another byte, the empty set and the set of all bytes.
func TestSub(t *testing.T) {
	all, e := classes.Range(0, 255)
	must(t, "Range", e)
	for b := range 256 {
		one := classes.Of([]byte{byte(b)})
		rest := classes.Drop(all, byte(b))
		if !classes.Sub(one, all) || classes.Sub(all, one) || classes.Sub(one, rest) || classes.Sub(all, rest) || !classes.Sub(rest, all) {
			t.Errorf("Sub with the byte %d", b)
		}
		if classes.Sub(one, api.ClSet{}) || !classes.Sub(api.ClSet{}, one) || !classes.Sub(one, one) {
			t.Errorf("Sub with the byte %d and the empty set", b)
		}
	}
	if !classes.Sub(api.ClSet{}, api.ClSet{}) || !classes.Sub(all, all) || classes.Sub(all, api.ClSet{}) {
		t.Error("Sub of the empty set and of all bytes")
	}
}

// TestAlgebra: sets are a boolean algebra (P3.4), and Count, Sub and List go with it (P3.5).
func TestAlgebra(t *testing.T) {
	some := someModels()
	for i, x := range some {
		a := x.set()
		if classes.Not(classes.Not(a)) != a {
			t.Fatalf("Not twice of %x", a)
		}
		if classes.Of(classes.List(a)) != a {
			t.Fatalf("Of of List of %x", a)
		}
		for j, y := range some {
			b, c := y.set(), some[(i+3*j)%len(some)].set()
			pairLaws(t, a, b)
			tripleLaws(t, a, b, c)
		}
	}
}

// pairLaws checks what holds for two sets.
func pairLaws(t *testing.T, a, b api.ClSet) {
	t.Helper()
	union, meet, minus := classes.Union(a, b), classes.Meet(a, b), classes.Minus(a, b)
	if classes.Union(b, a) != union || classes.Meet(b, a) != meet {
		t.Fatalf("%x, %x: the order matters", a, b)
	}
	if classes.Not(union) != classes.Meet(classes.Not(a), classes.Not(b)) {
		t.Fatalf("%x, %x: Not of a Union", a, b)
	}
	if minus != classes.Meet(a, classes.Not(b)) {
		t.Fatalf("%x, %x: Minus", a, b)
	}
	if classes.Count(union)+classes.Count(meet) != classes.Count(a)+classes.Count(b) {
		t.Fatalf("%x, %x: Counts", a, b)
	}
	if classes.Sub(a, b) != (minus == api.ClSet{}) {
		t.Fatalf("%x, %x: Sub", a, b)
	}
}

// tripleLaws checks what holds for three sets.
func tripleLaws(t *testing.T, a, b, c api.ClSet) {
	t.Helper()
	if classes.Union(a, classes.Union(b, c)) != classes.Union(classes.Union(a, b), c) || classes.Meet(a, classes.Meet(b, c)) != classes.Meet(classes.Meet(a, b), c) {
		t.Fatalf("%x, %x, %x: brackets matter", a, b, c)
	}
	if classes.Union(a, classes.Meet(b, c)) != classes.Meet(classes.Union(a, b), classes.Union(a, c)) || classes.Meet(a, classes.Union(b, c)) != classes.Union(classes.Meet(a, b), classes.Meet(a, c)) {
		t.Fatalf("%x, %x, %x: not distributed", a, b, c)
	}
}

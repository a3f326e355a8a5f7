package fold_test

import (
	"testing"

	"dragnet/fold"
)

// TestSame looks at every two bytes (P4.1).
func TestSame(t *testing.T) {
	for a := range 256 {
		for b := range 256 {
			if fold.Same(byte(a), byte(b)) != alikeBytes(byte(a), byte(b)) {
				t.Errorf("Same(%d, %d) is %v", a, b, !alikeBytes(byte(a), byte(b)))
			}
		}
	}
}

// TestLower looks at every byte (P4.1).
func TestLower(t *testing.T) {
	for b := range 256 {
		if small := fold.Lower(byte(b)); small != smallOf(byte(b)) {
			t.Errorf("Lower(%d) = %d", b, small)
		}
	}
}

// TestBoth looks at every byte (P4.1).
func TestBoth(t *testing.T) {
	for b := range 256 {
		want := only(func(c byte) bool { return alikeBytes(byte(b), c) })
		if s := fold.Both(byte(b)); s != want {
			t.Errorf("Both(%d) = %x", b, s)
		}
	}
}

// TestByteExamples has the rows of the chapter's examples, and the bytes beside the letters.
func TestByteExamples(t *testing.T) {
	for _, x := range []struct {
		a, b byte
		same bool
	}{
		{'a', 'A', true}, {'Z', 'z', true}, {'a', 'a', true}, {'a', 'b', false}, {'A', 'b', false},
		{'[', '{', false}, {'@', '`', false}, {'0', 'P', false}, {'0', 16, false}, {0, 32, false}, {'A', '!', false}, {'a', 0x81, false}, {0xc1, 0xe1, false}, {'A', 0xc1, false},
		{0, 0, true}, {255, 255, true}, {223, 255, false},
	} {
		if fold.Same(x.a, x.b) != x.same || fold.Same(x.b, x.a) != x.same {
			t.Errorf("Same of %q and %q is not %v", x.a, x.b, x.same)
		}
	}
	for b, want := range map[byte]byte{'Q': 'q', '@': '@', '[': '[', 'A': 'a', 'Z': 'z', 'a': 'a', 'z': 'z', '`': '`', '{': '{', 0: 0, 0xc1: 0xc1, 255: 255} {
		if small := fold.Lower(b); small != want {
			t.Errorf("Lower of %q is %q", b, small)
		}
	}
	for b, want := range map[byte]string{'q': "Qq", 'Q': "Qq", 'A': "Aa", 'z': "Zz", '@': "@", '[': "[", '`': "`", '{': "{", '1': "1", 0: "\x00", 255: "\xff"} {
		if s := fold.Both(b); s != setOf(want) {
			t.Errorf("Both of %q is %x", b, s)
		}
	}
}

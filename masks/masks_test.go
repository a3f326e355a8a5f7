package masks_test

import (
	"math/rand"
	"testing"

	"dragnet/masks"
)

// numbers are numbers of all sorts: few bits, many bits, masks and what is beside them.
func numbers() []uint64 {
	l := []uint64{0, 1, 2, 3, 5, 10, 12, ones, ones - 1, ones - 2, 1<<63 - 1, 1 << 63, 1<<63 + 1, 1<<32 - 1, 1 << 32, 0xffffffff00000000, 0xaaaaaaaaaaaaaaaa, 0x5555555555555555}
	for i := range 64 {
		l = append(l, 1<<i, ^uint64(1<<i), ones<<i, uint64(ones)>>i)
	}
	r := rand.New(rand.NewSource(7))
	for range 300 {
		l = append(l, r.Uint64(), r.Uint64()>>r.Intn(64), r.Uint64()<<r.Intn(64), r.Uint64()&r.Uint64()&r.Uint64())
	}
	return l
}

// told returns the mask that is set if something is so.
func told(is bool) uint64 {
	if is {
		return ones
	}
	return 0
}

// TestMade makes masks of all sorts of numbers (P7.1, P7.7).
func TestMade(t *testing.T) {
	for _, x := range numbers() {
		if m := masks.Of(x); m != told(x%2 == 1) {
			t.Errorf("Of(%x): %x", x, m)
		}
		if m := masks.Zero(x); m != told(x == 0) {
			t.Errorf("Zero(%x): %x", x, m)
		}
		if is := masks.Is(x); is != (x == 0 || x == ones) {
			t.Errorf("Is(%x): %v", x, is)
		}
		if m := masks.Not(x); m != ones-x {
			t.Errorf("Not(%x): %x", x, m)
		}
		if !masks.Is(masks.Of(x)) || !masks.Is(masks.Zero(x)) {
			t.Errorf("%x: %x, %x are no masks", x, masks.Of(x), masks.Zero(x))
		}
	}
}

// chosen chooses bit by bit.
func chosen(m, a, b uint64) uint64 {
	out := uint64(0)
	for i := 63; i >= 0; i-- {
		from := b
		if m>>i%2 == 1 {
			from = a
		}
		out = out*2 + from>>i%2
	}
	return out
}

// TestSelect chooses by masks and by other numbers (P7.1, P7.6).
func TestSelect(t *testing.T) {
	l := numbers()
	r := rand.New(rand.NewSource(71))
	for i, m := range l {
		a, b := l[r.Intn(len(l))], l[(i*7+3)%len(l)]
		if got := masks.Select(m, a, b); got != chosen(m, a, b) {
			t.Errorf("Select(%x, %x, %x): %x", m, a, b, got)
		}
		if got := masks.Select(masks.Not(m), a, b); got != masks.Select(m, b, a) {
			t.Errorf("Select of Not of %x, %x, %x: %x", m, a, b, got)
		}
		if x, y := masks.Select(ones, a, b), masks.Select(0, a, b); x != a || y != b {
			t.Errorf("Select by masks of %x, %x: %x, %x", a, b, x, y)
		}
	}
}

// TestOpposites compares masks of a bit with those of its opposite (P7.6).
func TestOpposites(t *testing.T) {
	for _, x := range numbers() {
		if m := masks.Not(masks.Of(x ^ 1)); m != masks.Of(x) {
			t.Errorf("Of(%x): %x; Not of Of of its opposite: %x", x, masks.Of(x), m)
		}
		if m := masks.Of(^x); m != masks.Not(masks.Of(x)) {
			t.Errorf("Of(%x): %x", ^x, m)
		}
	}
}

// TestExampleMasks has the row of the chapter's examples that has no arena.
func TestExampleMasks(t *testing.T) {
	if masks.Of(1) != ones || masks.Of(2) != 0 || masks.Zero(0) != ones || masks.Select(12, 10, 5) != 9 {
		t.Errorf("%x, %x, %x, %d", masks.Of(1), masks.Of(2), masks.Zero(0), masks.Select(12, 10, 5))
	}
}

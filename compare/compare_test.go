package compare_test

import (
	"math/rand"
	"testing"

	"dragnet/compare"
	"dragnet/masks"
)

// numbers are numbers of all sorts: few bits, many bits, masks and what is beside them, with the sign and without.
func numbers() []uint64 {
	l := []uint64{0, 1, 2, 3, 5, 6, ones, ones - 1, ones - 2, 1<<63 - 2, 1<<63 - 1, 1 << 63, 1<<63 + 1, 1<<32 - 1, 1 << 32, 1<<32 + 1, 0xffffffff00000000, 0xaaaaaaaaaaaaaaaa, 0x5555555555555555}
	for i := range 64 {
		l = append(l, 1<<i, ^uint64(1<<i), 1<<i-1, 1<<63|1<<i)
	}
	return append(l, random(rand.New(rand.NewSource(8)), 60)...)
}

// TestPure compares all pairs of numbers (P8.1, P8.8).
func TestPure(t *testing.T) {
	for _, a := range numbers() {
		for _, b := range numbers() {
			for i, x := range [][2]uint64{
				{compare.Equal(a, b), told(a == b)},
				{compare.Less(a, b), told(a < b)},
				{compare.LessSigned(a, b), told(int64(a) < int64(b))},
				{compare.Min(a, b), min(a, b)},
				{compare.Max(a, b), max(a, b)},
			} {
				if x[0] != x[1] {
					t.Errorf("the function %d of %x, %x returns %x; want %x", i, a, b, x[0], x[1])
				}
			}
		}
	}
}

// TestBetween has bounds of all sorts, those of which the lower one is the greater among them (P8.1, P8.8).
func TestBetween(t *testing.T) {
	l := numbers()
	for k, x := range l {
		for i, low := range l {
			for j := (i + k) % 40; j < len(l); j += 40 {
				if m := compare.Between(x, low, l[j]); m != told(low <= x && x <= l[j]) {
					t.Errorf("Between(%x, %x, %x): %x", x, low, l[j], m)
				}
			}
		}
	}
	for _, x := range l {
		for _, low := range []uint64{x, x - 1, x + 1} {
			for _, high := range []uint64{x, x - 1, x + 1} {
				if m := compare.Between(x, low, high); m != told(low <= x && x <= high) {
					t.Errorf("Between(%x, %x, %x): %x", x, low, high, m)
				}
			}
		}
	}
}

// TestOrders has the orders of numbers (P8.5).
func TestOrders(t *testing.T) {
	l := numbers()
	for _, a := range l {
		for i, b := range l {
			less, more, equal := compare.Less(a, b), compare.Less(b, a), compare.Equal(a, b)
			if !masks.Is(less) || !masks.Is(more) || !masks.Is(equal) || less&1+more&1+equal&1 != 1 {
				t.Errorf("%x, %x: less %x, more %x, equal %x", a, b, less, more, equal)
			}
			if m := compare.LessSigned(a, b); m != compare.Less(a^1<<63, b^1<<63) {
				t.Errorf("LessSigned(%x, %x): %x", a, b, m)
			}
			c := l[(i*7+3)%len(l)]
			if less&compare.Less(b, c) != 0 && compare.Less(a, c) == 0 {
				t.Errorf("%x is less than %x, which is less than %x", a, b, c)
			}
		}
	}
}

// TestExamplePure has the row of the chapter's examples that has no arena.
func TestExamplePure(t *testing.T) {
	for i, x := range [][2]uint64{
		{compare.Less(3, 4), ones}, {compare.Less(4, 3), 0}, {compare.LessSigned(ones, 0), ones}, {compare.Between(5, 5, 6), ones},
		{compare.Less(ones, 0), 0}, {compare.LessSigned(0, ones), 0}, {compare.Between(6, 5, 6), ones}, {compare.Between(4, 5, 6), 0}, {compare.Between(7, 5, 6), 0}, {compare.Between(5, 6, 5), 0},
		{compare.Min(ones, 1), 1}, {compare.Max(1, ones), ones}, {compare.Min(1, ones), 1}, {compare.Max(ones, 1), ones}, {compare.Equal(7, 7), ones}, {compare.Equal(7, 7+1<<63), 0},
	} {
		if x[0] != x[1] {
			t.Errorf("the call %d returns %x; want %x", i, x[0], x[1])
		}
	}
}

package bits_test

import (
	"math/rand"
	"slices"
	"testing"

	"dragnet/api"
	"dragnet/bits"
)

// TestShift compares Shift and Back with moves of a list of bits.
func TestShift(t *testing.T) {
	for _, w := range someRows() {
		l := plainBits(w)
		last := len(l) - 1
		for _, in := range []bool{false, true} {
			want := append([]bool{in}, l[:last]...)
			if u, out, e := bits.Shift(w, in); !slices.Equal(plainBits(u), want) || out != l[last] || e != api.OK {
				t.Fatalf("Shift(%x, %v): %x, %v, %d", w, in, u, out, e)
			}
			want = append(slices.Clone(l[1:]), in)
			if u, out, e := bits.Back(w, in); !slices.Equal(plainBits(u), want) || out != l[0] || e != api.OK {
				t.Fatalf("Back(%x, %v): %x, %v, %d", w, in, u, out, e)
			}
		}
	}
}

// TestShiftBothWays: Back of Shift with the bit that came out, and Shift of Back, are the row (P2.6).
func TestShiftBothWays(t *testing.T) {
	for _, w := range someRows() {
		for _, in := range []bool{false, true} {
			up, out, _ := bits.Shift(w, in)
			if u, back, e := bits.Back(up, out); !slices.Equal(u, w) || back != in || e != api.OK {
				t.Fatalf("Back of Shift(%x, %v): %x, %v, %d", w, in, u, back, e)
			}
			down, out, _ := bits.Back(w, in)
			if u, back, e := bits.Shift(down, out); !slices.Equal(u, w) || back != in || e != api.OK {
				t.Fatalf("Shift of Back(%x, %v): %x, %v, %d", w, in, u, back, e)
			}
		}
	}
}

// TestShiftsThrough: as many Shifts as a row has bits lead to the row whose bits came in, and all bits of the row come out (P2.6).
func TestShiftsThrough(t *testing.T) {
	r := rand.New(rand.NewSource(3))
	for n := 1; n <= 8; n++ {
		for range 5 {
			w, other := anyRow(r, n), anyRow(r, n)
			left, coming := plainBits(w), plainBits(other)
			now := w
			for i := len(coming) - 1; i >= 0; i-- {
				u, out, e := bits.Shift(now, coming[i])
				if out != left[i] || e != api.OK {
					t.Fatalf("Shift(%x): %v, %d; want the bit %d of %x", now, out, e, i, w)
				}
				now = u
			}
			if !slices.Equal(now, other) {
				t.Fatalf("Shifts of %x: %x, want %x", w, now, other)
			}
			for i, in := range left {
				u, out, e := bits.Back(now, in)
				if out != coming[i] || e != api.OK {
					t.Fatalf("Back(%x): %v, %d; want the bit %d of %x", now, out, e, i, other)
				}
				now = u
			}
			if !slices.Equal(now, w) {
				t.Fatalf("Backs of %x: %x, want %x", other, now, w)
			}
		}
	}
}

// TestShiftOfCombined: Shift of And, of Or and of Not is And, Or and Not of Shifts; so is Back (P2.6).
func TestShiftOfCombined(t *testing.T) {
	type mover = func([]uint64, bool) ([]uint64, bool, api.Errno)
	both := []bool{false, true}
	eachPair(func(a, b []uint64) {
		for k, move := range []mover{bits.Shift, bits.Back} {
			and, _ := bits.And(a, b)
			or, _ := bits.Or(a, b)
			not, _ := bits.Not(a)
			for _, x := range both {
				ma, outA, _ := move(a, x)
				for _, y := range both {
					mb, outB, _ := move(b, y)
					want, _ := bits.And(ma, mb)
					if u, out, e := move(and, x && y); !slices.Equal(u, want) || out != (outA && outB) || e != api.OK {
						t.Fatalf("move %d of And(%x, %x): %x, %v, %d", k, a, b, u, out, e)
					}
					want, _ = bits.Or(ma, mb)
					if u, out, e := move(or, x || y); !slices.Equal(u, want) || out != (outA || outB) || e != api.OK {
						t.Fatalf("move %d of Or(%x, %x): %x, %v, %d", k, a, b, u, out, e)
					}
				}
				want, _ := bits.Not(ma)
				if u, out, e := move(not, !x); !slices.Equal(u, want) || out == outA || e != api.OK {
					t.Fatalf("move %d of Not(%x): %x, %v, %d", k, a, u, out, e)
				}
			}
		}
	})
}

package masks_test

import (
	"math"
	"math/rand"
	"slices"
	"testing"

	"dragnet/api"
	"dragnet/arena"
	"dragnet/masks"
)

// rows calls SwapRows and MoveRows, and compares them with the model.
func rows(t *testing.T, a *arena.Arena, m *model, mask uint64, x, y, n int) {
	t.Helper()
	if e, f := masks.SwapRows(a, mask, x, y, n), m.swapRows(mask, x, y, n); e != f {
		t.Errorf("SwapRows(%x, %d, %d, %d) of %d cells: %d; want %d", mask, x, y, n, len(m.cells), e, f)
	}
	m.same(t, a)
	if e, f := masks.MoveRows(a, mask, x, y, n), m.moveRows(mask, x, y, n); e != f {
		t.Errorf("MoveRows(%x, %d, %d, %d) of %d cells: %d; want %d", mask, x, y, n, len(m.cells), e, f)
	}
	m.same(t, a)
	a.Forget()
	m.trace = nil
}

// TestSmallRows has all rows of small arenas, those that overlap, and those that are not there, among them (P7.3, P7.4, P7.5).
func TestSmallRows(t *testing.T) {
	for cells := 1; cells <= 7; cells++ {
		var values []uint64
		for i := range cells {
			values = append(values, uint64(i)+5)
		}
		a, m := pair(t, values...)
		for _, mask := range []uint64{ones, 0, 1} {
			for x := -2; x < cells+2; x++ {
				for y := -2; y < cells+2; y++ {
					for n := -1; n < 6; n++ {
						rows(t, a, m, mask, x, y, n)
						a.Store(max(0, x%cells), uint64(n)<<33)
						m.cells[max(0, x%cells)] = uint64(n) << 33
						a.Forget()
					}
				}
			}
		}
	}
}

// TestLongRows tries each limit of n, and one beyond it (P7.3).
func TestLongRows(t *testing.T) {
	var values []uint64
	for i := range 130 {
		values = append(values, uint64(i*i)<<40+uint64(i))
	}
	a, m := pair(t, values...)
	for _, mask := range append(notMasks(), ones, 0) {
		for _, n := range []int{1, 2, 63, 64, 65, 66, 128, 0, -1, -64, 1<<32 + 1, math.MaxInt, math.MinInt} {
			for _, x := range [][2]int{{0, 65}, {65, 0}, {0, 64}, {64, 0}, {63, 0}, {0, 63}, {2, 66}, {66, 2}, {67, 2}, {2, 67}, {0, 129}, {0, 130}, {130, 0}, {-1, 64}, {64, -1}, {5, 5}, {math.MaxInt, 0}, {0, math.MaxInt}, {math.MinInt, 0}, {0, math.MinInt}, {math.MaxInt, math.MaxInt - 5}} {
				rows(t, a, m, mask, x[0], x[1], n)
			}
		}
	}
}

// TestLargestArena has rows at the end of the largest arena (P7.3).
func TestLargestArena(t *testing.T) {
	a, _ := pair(t, make([]uint64, 65536)...)
	for i := range 64 {
		a.Store(65472+i, uint64(i)+100)
	}
	if e := masks.SwapRows(a, ones, 65472, 65408, 64); e != api.OK {
		t.Errorf("SwapRows: %d", e)
	}
	if e := masks.MoveRows(a, ones, 65408, 0, 64); e != api.OK {
		t.Errorf("MoveRows: %d", e)
	}
	cells := a.Cells()
	for i := range 64 {
		if want := uint64(i) + 100; cells[i] != want || cells[65408+i] != want || cells[65472+i] != 0 {
			t.Errorf("%d: %d, %d, %d", i, cells[i], cells[65408+i], cells[65472+i])
		}
	}
	for _, x := range [][2]int{{65473, 0}, {0, 65473}} {
		if e, f := masks.SwapRows(a, ones, x[0], x[1], 64), masks.MoveRows(a, ones, x[0], x[1], 64); e != api.ErrRange || f != api.ErrRange {
			t.Errorf("%v: %d, %d", x, e, f)
		}
	}
}

// TestBlind makes random calls of two arenas with other values and other masks: they have the same steps and the same errors (P7.4).
func TestBlind(t *testing.T) {
	r := rand.New(rand.NewSource(73))
	values := func() []uint64 {
		l := make([]uint64, 100)
		for i := range l {
			l[i] = r.Uint64() >> r.Intn(65)
		}
		return l
	}
	a, m := pair(t, values()...)
	b, w := pair(t, values()...)
	for range 3000 {
		kind, x, y, n := r.Intn(5), r.Intn(102)-1, r.Intn(102)-1, r.Intn(30)
		e, f := call(a, kind, told(r.Intn(2) == 0), x, y, n), call(b, kind, told(r.Intn(2) == 0), x, y, n)
		if e != f {
			t.Fatalf("call %d of %d, %d, %d: %d, %d", kind, x, y, n, e, f)
		}
	}
	if !slices.Equal(a.Events(), b.Events()) || a.Steps() == 0 {
		t.Errorf("%d and %d steps, which are not the same", a.Steps(), b.Steps())
	}
	if slices.Equal(m.cells, w.cells) {
		t.Errorf("both arenas have the same values")
	}
}

// call makes a call of a kind.
func call(a *arena.Arena, kind int, mask uint64, x, y, n int) api.Errno {
	switch kind {
	case 0:
		return masks.Swap(a, mask, x, y)
	case 1:
		return masks.Move(a, mask, x, y)
	case 2:
		return masks.Clear(a, mask, x)
	case 3:
		return masks.SwapRows(a, mask, x, y, n)
	}
	return masks.MoveRows(a, mask, x, y, n)
}

// TestRandom makes random calls, and compares the arena with its model (P7.2, P7.3, P7.5).
func TestRandom(t *testing.T) {
	r := rand.New(rand.NewSource(74))
	values := make([]uint64, 160)
	for i := range values {
		values[i] = r.Uint64() >> r.Intn(64)
	}
	a, m := pair(t, values...)
	for range 3000 {
		kind, mask, x, y, n := r.Intn(5), told(r.Intn(3) > 0), r.Intn(162)-1, r.Intn(162)-1, r.Intn(67)
		if r.Intn(20) == 0 {
			mask = r.Uint64()
		}
		var want api.Errno
		switch kind {
		case 0:
			want = m.swap(mask, x, y)
		case 1:
			want = m.move(mask, x, y)
		case 2:
			want = m.clear(mask, x)
		case 3:
			want = m.swapRows(mask, x, y, n)
		case 4:
			want = m.moveRows(mask, x, y, n)
		}
		if e := call(a, kind, mask, x, y, n); e != want {
			t.Fatalf("call %d of %x, %d, %d, %d: %d; want %d", kind, mask, x, y, n, e, want)
		}
	}
	m.same(t, a)
}

// TestExampleRows has the rows of the chapter's examples that exchange rows.
func TestExampleRows(t *testing.T) {
	a, _ := pair(t, 5, 6, 7, 8)
	if e := masks.SwapRows(a, ones, 0, 1, 2); e != api.ErrArg || a.Steps() != 0 || !slices.Equal(a.Cells(), []uint64{5, 6, 7, 8}) {
		t.Errorf("SwapRows that overlap: %d, %v", e, a.Cells())
	}
	if e := masks.SwapRows(a, ones, 0, 2, 2); e != api.OK || !slices.Equal(a.Cells(), []uint64{7, 8, 5, 6}) {
		t.Errorf("SwapRows: %d, %v", e, a.Cells())
	}
	if l := a.Events(); !slices.Equal(l, steps(1, 0, 1, 2, 2, 0, 2, 2, 1, 1, 1, 3, 2, 1, 2, 3)) {
		t.Errorf("SwapRows: %v", l)
	}
}

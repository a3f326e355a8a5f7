package masks_test

import (
	"math"
	"math/rand"
	"slices"
	"testing"

	"dragnet/api"
	"dragnet/arena"
	"dragnet/masks"
)

// notMasks are numbers that are no masks.
func notMasks() []uint64 {
	return []uint64{1, 2, 3, ones - 1, ones >> 1, 1 << 63, 1<<32 - 1, 0xffffffff00000000, 0xaaaaaaaaaaaaaaaa}
}

// places are addresses of an arena with 4 cells, and some beside it.
func places() []int {
	return []int{0, 1, 2, 3, 4, 5, -1, -2, 65535, 65536, 1 << 32, 1<<32 + 1, math.MaxInt, math.MaxInt - 1, math.MinInt}
}

// steps is a trace that is written as kinds and addresses in turn.
func steps(kindsAndCells ...int32) []api.TrEvent {
	var l []api.TrEvent
	for i := 0; i < len(kindsAndCells); i += 2 {
		l = append(l, api.TrEvent{Kind: kindsAndCells[i], At: kindsAndCells[i+1]})
	}
	return l
}

// TestCells calls Swap, Move and Clear with all small addresses, and with some that are none, with both masks and with others (P7.2, P7.4, P7.5, P7.7).
func TestCells(t *testing.T) {
	for _, mask := range append(notMasks(), 0, ones) {
		for _, x := range places() {
			for _, y := range places() {
				a, m := pair(t, 5, 6, 1<<63+7, ones)
				if e, f := masks.Swap(a, mask, x, y), m.swap(mask, x, y); e != f {
					t.Errorf("Swap(%x, %d, %d): %d; want %d", mask, x, y, e, f)
				}
				m.same(t, a)
				if e, f := masks.Move(a, mask, x, y), m.move(mask, x, y); e != f {
					t.Errorf("Move(%x, %d, %d): %d; want %d", mask, x, y, e, f)
				}
				m.same(t, a)
				if e, f := masks.Clear(a, mask, y), m.clear(mask, y); e != f {
					t.Errorf("Clear(%x, %d): %d; want %d", mask, y, e, f)
				}
				m.same(t, a)
			}
		}
	}
}

// TestStepsOfCells writes down what the three functions do, whatever the mask is (P7.2, P7.4).
func TestStepsOfCells(t *testing.T) {
	for _, x := range []struct {
		call func(a *arena.Arena, m uint64) api.Errno
		want []api.TrEvent
		set  []uint64
	}{
		{func(a *arena.Arena, m uint64) api.Errno { return masks.Swap(a, m, 2, 0) }, steps(1, 2, 1, 0, 2, 2, 2, 0), []uint64{7, 6, 5, 8}},
		{func(a *arena.Arena, m uint64) api.Errno { return masks.Swap(a, m, 1, 1) }, steps(1, 1, 1, 1, 2, 1, 2, 1), []uint64{5, 6, 7, 8}},
		{func(a *arena.Arena, m uint64) api.Errno { return masks.Move(a, m, 2, 0) }, steps(1, 2, 1, 0, 2, 0), []uint64{7, 6, 7, 8}},
		{func(a *arena.Arena, m uint64) api.Errno { return masks.Move(a, m, 3, 3) }, steps(1, 3, 1, 3, 2, 3), []uint64{5, 6, 7, 8}},
		{func(a *arena.Arena, m uint64) api.Errno { return masks.Clear(a, m, 2) }, steps(1, 2, 2, 2), []uint64{5, 6, 0, 8}},
	} {
		for _, mask := range []uint64{0, ones} {
			a, _ := pair(t, 5, 6, 7, 8)
			want := []uint64{5, 6, 7, 8}
			if mask == ones {
				want = x.set
			}
			if e := x.call(a, mask); e != api.OK || !slices.Equal(a.Events(), x.want) || !slices.Equal(a.Cells(), want) {
				t.Errorf("%x: %d, %v, %v; want %v, %v", mask, e, a.Events(), a.Cells(), x.want, want)
			}
		}
	}
}

// TestExampleCells has the rows of the chapter's examples that exchange single cells.
func TestExampleCells(t *testing.T) {
	a, _ := pair(t, 5, 6, 7, 8)
	if e := masks.Swap(a, ones, 0, 3); e != api.OK || !slices.Equal(a.Cells(), []uint64{8, 6, 7, 5}) {
		t.Errorf("Swap: %d, %v", e, a.Cells())
	}
	a.Forget()
	if e := masks.Swap(a, 0, 0, 1); e != api.OK || !slices.Equal(a.Cells(), []uint64{8, 6, 7, 5}) || !slices.Equal(a.Events(), steps(1, 0, 1, 1, 2, 0, 2, 1)) {
		t.Errorf("Swap of 0: %d, %v, %v", e, a.Cells(), a.Events())
	}
	a.Forget()
	if e, f := masks.Swap(a, 1, 0, 1), masks.Swap(a, 0, 0, 4); e != api.ErrArg || f != api.ErrRange {
		t.Errorf("Swap: %d, %d", e, f)
	}
	if a.Steps() != 0 || !slices.Equal(a.Cells(), []uint64{8, 6, 7, 5}) {
		t.Errorf("errors: %v, %v", a.Events(), a.Cells())
	}
}

// TestNotMade has arenas that New did not return: a mask that is none comes first (P7.2, P7.3, R5).
func TestNotMade(t *testing.T) {
	made, m := pair(t, 5, 6, 7, 8)
	another := *made
	for i, a := range []*arena.Arena{nil, {}, &another} {
		for j, x := range [][2]api.Errno{
			{masks.Swap(a, ones, 0, 1), api.ErrNil}, {masks.Swap(a, 0, -1, 9), api.ErrNil}, {masks.Swap(a, 1, 0, 1), api.ErrArg},
			{masks.Move(a, ones, 0, 1), api.ErrNil}, {masks.Move(a, 0, -1, 9), api.ErrNil}, {masks.Move(a, 1, 0, 1), api.ErrArg},
			{masks.Clear(a, ones, 0), api.ErrNil}, {masks.Clear(a, 0, -1), api.ErrNil}, {masks.Clear(a, 1, 0), api.ErrArg},
			{masks.SwapRows(a, ones, 0, 2, 2), api.ErrNil}, {masks.SwapRows(a, 0, 0, 1, 2), api.ErrNil}, {masks.SwapRows(a, 1, 0, 2, 0), api.ErrArg}, {masks.SwapRows(a, 0, 0, 2, 0), api.ErrRange}, {masks.SwapRows(a, 0, 0, 99, 65), api.ErrRange},
			{masks.MoveRows(a, ones, 0, 2, 2), api.ErrNil}, {masks.MoveRows(a, 0, 0, 1, 2), api.ErrNil}, {masks.MoveRows(a, 1, 0, 2, 0), api.ErrArg}, {masks.MoveRows(a, 0, 0, 2, 0), api.ErrRange}, {masks.MoveRows(a, 0, 0, 99, 65), api.ErrRange},
		} {
			if x[0] != x[1] {
				t.Errorf("%d: the call %d returns %d; want %d", i, j, x[0], x[1])
			}
		}
	}
	m.same(t, made)
}

// fill makes steps until only so many may be made.
func fill(t *testing.T, a *arena.Arena, left int) {
	t.Helper()
	a.Forget()
	for range api.MaxSteps - left {
		a.Load(0)
	}
	if a.Room(left) != api.OK || a.Room(left+1) != api.ErrLong {
		t.Fatalf("%d steps; %d should be left", a.Steps(), left)
	}
}

// TestRoom has just as many steps left as a call makes, and one less; other errors come before that of Room (P7.2, P7.3).
func TestRoom(t *testing.T) {
	a, m := pair(t, make([]uint64, 200)...)
	for i := range m.cells {
		m.cells[i] = uint64(i) * 3
		a.Store(i, m.cells[i])
	}
	for _, x := range []struct {
		steps int
		call  func(mask uint64) api.Errno
		model func(mask uint64) api.Errno
	}{
		{4, func(k uint64) api.Errno { return masks.Swap(a, k, 3, 9) }, func(k uint64) api.Errno { return m.swap(k, 3, 9) }},
		{3, func(k uint64) api.Errno { return masks.Move(a, k, 4, 8) }, func(k uint64) api.Errno { return m.move(k, 4, 8) }},
		{2, func(k uint64) api.Errno { return masks.Clear(a, k, 5) }, func(k uint64) api.Errno { return m.clear(k, 5) }},
		{256, func(k uint64) api.Errno { return masks.SwapRows(a, k, 10, 74, 64) }, func(k uint64) api.Errno { return m.swapRows(k, 10, 74, 64) }},
		{192, func(k uint64) api.Errno { return masks.MoveRows(a, k, 80, 15, 64) }, func(k uint64) api.Errno { return m.moveRows(k, 80, 15, 64) }},
	} {
		fill(t, a, x.steps)
		m.trace = nil
		if e, f := x.call(ones), x.model(ones); e != api.OK || f != api.OK || a.Room(1) != api.ErrLong {
			t.Errorf("%d steps left: %d, %d", x.steps, e, f)
		}
		if l, _ := a.Since(api.MaxSteps - x.steps); !slices.Equal(l, m.trace) {
			t.Errorf("%d steps left: %v", x.steps, l)
		}
		fill(t, a, x.steps-1)
		for _, k := range []uint64{0, ones} {
			if e := x.call(k); e != api.ErrLong || a.Steps() != api.MaxSteps-x.steps+1 || !slices.Equal(a.Cells(), m.cells) {
				t.Errorf("%d steps left: %d, %d steps made", x.steps-1, e, a.Steps())
			}
		}
		if e := x.call(2); e != api.ErrArg {
			t.Errorf("no mask, and no steps left: %d", e)
		}
	}
	full(t, a)
}

// full calls with the errors that come before that of Room, when too few steps are left.
func full(t *testing.T, a *arena.Arena) {
	t.Helper()
	fill(t, a, 1)
	for i, x := range [][2]api.Errno{
		{masks.Swap(a, 0, 0, 200), api.ErrRange}, {masks.Swap(a, 0, 200, 0), api.ErrRange}, {masks.Move(a, 0, 0, 200), api.ErrRange}, {masks.Move(a, 0, -1, 0), api.ErrRange}, {masks.Clear(a, 0, 200), api.ErrRange},
		{masks.SwapRows(a, 0, 0, 1, 2), api.ErrArg}, {masks.SwapRows(a, 0, 0, 199, 2), api.ErrRange}, {masks.SwapRows(a, 0, 0, 1, 1), api.ErrLong},
		{masks.MoveRows(a, 0, 0, 1, 2), api.ErrArg}, {masks.MoveRows(a, 0, 0, 199, 2), api.ErrRange}, {masks.MoveRows(a, 0, 0, 1, 1), api.ErrLong},
	} {
		if x[0] != x[1] {
			t.Errorf("the call %d returns %d; want %d", i, x[0], x[1])
		}
	}
	if a.Room(1) != api.OK {
		t.Errorf("%d steps made", a.Steps())
	}
}

// TestTwice exchanges twice, with both masks (P7.5).
func TestTwice(t *testing.T) {
	r := rand.New(rand.NewSource(72))
	for range 300 {
		values := make([]uint64, 150)
		for i := range values {
			values[i] = r.Uint64() >> r.Intn(64)
		}
		a, m := pair(t, values...)
		mask := told(r.Intn(3) > 0)
		x, y, n := r.Intn(150), r.Intn(150), 1+r.Intn(64)
		if masks.Swap(a, mask, x, y) != api.OK || masks.Swap(a, mask, x, y) != api.OK || !slices.Equal(a.Cells(), values) {
			t.Errorf("Swap(%x, %d, %d) twice changes something", mask, x, y)
		}
		e := masks.SwapRows(a, mask, x, y, n)
		if f := masks.SwapRows(a, mask, x, y, n); f != e || f != m.badRows(mask, x, y, n) || !slices.Equal(a.Cells(), values) {
			t.Errorf("SwapRows(%x, %d, %d, %d) twice: %d, %d", mask, x, y, n, e, f)
		}
	}
}

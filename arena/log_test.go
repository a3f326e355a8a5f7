package arena_test

import (
	"math"
	"slices"
	"testing"

	"dragnet/api"
	"dragnet/arena"
)

// maxSteps is how many steps an arena makes at most.
const maxSteps = 1 << 23

// since checks a call of Since.
func since(t *testing.T, a *arena.Arena, m *model, step int) {
	t.Helper()
	l, e := a.Since(step)
	if step < 0 || step > len(m.trace) {
		if len(l) != 0 || e != api.ErrRange {
			t.Fatalf("Since(%d) of %d steps: %v, %d", step, len(m.trace), l, e)
		}
		return
	}
	if e != api.OK || !slices.Equal(l, m.trace[step:]) {
		t.Fatalf("Since(%d): %v, %d; want %v", step, l, e, m.trace[step:])
	}
}

// TestSince asks after each step for all that is to be asked, of a trace that is longer than what is stored together (P5.4).
func TestSince(t *testing.T) {
	a, m := pair(t, 7)
	for i := range 3000 {
		if i < 30 || i%500 == 0 {
			for step := -2; step <= len(m.trace)+2; step++ {
				since(t, a, m, step)
			}
			for _, step := range []int{math.MinInt, math.MaxInt} {
				since(t, a, m, step)
			}
			m.same(t, a)
		}
		a.Load(i * i % 7)
		m.load(i * i % 7)
	}
	since(t, a, m, 3000)
	m.same(t, a)
}

// TestQuestions checks that errors, regions and questions log nothing, and change nothing (P5.2, P5.4, P5.7).
func TestQuestions(t *testing.T) {
	a, m := pair(t, 3)
	ask := func() {
		a.Has(0, 3)
		a.Has(0, 4)
		a.Room(5)
		a.Room(-1)
		a.Steps()
		a.Events()
		a.Since(0)
		a.Since(-1)
		a.Cells()
		a.Regions()
		a.Find("a")
		a.Find("none")
		a.Load(3)
		a.Load(-1)
		a.Store(3, 1)
		a.Store(-1, 1)
		a.Region("a", 4)
	}
	ask()
	m.same(t, a)
	a.Region("a", 2)
	m.region("a", 2)
	ask()
	m.same(t, a)
	// Cells of a region, and cells of none, are logged alike.
	for _, at := range []int{2, 0, 1, 2} {
		a.Store(at, uint64(at)+5)
		m.store(at, uint64(at)+5)
		ask()
		m.same(t, a)
	}
}

// TestForget checks that the trace begins anew, and that cells and regions stay (P5.5, P5.7).
func TestForget(t *testing.T) {
	a, m := pair(t, 10)
	a.Region("a", 4)
	m.region("a", 4)
	for _, steps := range []int{0, 1, 5, 1500, 3, 4096, 0, 2} {
		for i := range steps {
			a.Store(i%10, uint64(i))
			m.store(i%10, uint64(i))
			a.Load(i % 3)
			m.load(i % 3)
		}
		m.same(t, a)
		if e := a.Forget(); e != api.OK {
			t.Fatalf("Forget: %d", e)
		}
		m.trace = nil
		m.same(t, a)
		since(t, a, m, 0)
		since(t, a, m, 1)
		if a.Room(maxSteps) != api.OK || a.Room(maxSteps+1) != api.ErrLong {
			t.Fatalf("Room after Forget: %d, %d", a.Room(maxSteps), a.Room(maxSteps+1))
		}
	}
}

// TestRoom asks for room after some steps (P5.2).
func TestRoom(t *testing.T) {
	a := made(t, 1)
	for made := range 5 {
		for _, x := range []struct {
			steps int
			want  api.Errno
		}{
			{0, api.OK}, {1, api.OK}, {maxSteps - made, api.OK}, {maxSteps - made + 1, api.ErrLong}, {maxSteps + 1, api.ErrLong}, {math.MaxInt, api.ErrLong}, {-1, api.ErrRange}, {math.MinInt, api.ErrRange},
		} {
			if e := a.Room(x.steps); e != x.want {
				t.Errorf("Room(%d) after %d steps: %d", x.steps, made, e)
			}
		}
		if a.Steps() != made {
			t.Errorf("%d steps; want %d", a.Steps(), made)
		}
		a.Load(0)
	}
}

// TestMaxSteps makes as many steps as an arena makes, and tries one more (P5.3).
func TestMaxSteps(t *testing.T) {
	const cells = 65536
	a := made(t, cells)
	// The cells are 2^7 times gone through by loads, after one store of each.
	for i := range maxSteps - 1 {
		at := i % cells
		if i < cells {
			a.Store(at, uint64(at)+1)
		} else if v, e := a.Load(at); v != uint64(at)+1 || e != api.OK {
			t.Fatalf("the step %d: %d, %d", i, v, e)
		}
	}
	if a.Room(0) != api.OK || a.Room(1) != api.OK || a.Room(2) != api.ErrLong {
		t.Errorf("Room before the last step: %d, %d, %d", a.Room(0), a.Room(1), a.Room(2))
	}
	if e := a.Store(cells-1, 9); e != api.OK {
		t.Errorf("the last step: %d", e)
	}
	if a.Room(0) != api.OK || a.Room(1) != api.ErrLong {
		t.Errorf("Room after the last step: %d, %d", a.Room(0), a.Room(1))
	}
	refuses(t, a, cells)
	long(t, a, cells)
	if e := a.Forget(); e != api.OK || a.Steps() != 0 {
		t.Errorf("Forget: %d, %d steps", e, a.Steps())
	}
	if v, e := a.Load(cells - 1); v != 9 || e != api.OK || a.Steps() != 1 {
		t.Errorf("Load after Forget: %d, %d, %d steps", v, e, a.Steps())
	}
}

// refuses checks that an arena that made all of its steps makes no other one; a cell that is not there is named first.
func refuses(t *testing.T, a *arena.Arena, cells int) {
	t.Helper()
	for range 2 {
		v, e := a.Load(cells - 1)
		if f := a.Store(0, 5); v != 0 || e != api.ErrLong || f != api.ErrLong {
			t.Errorf("one more step: %d, %d; %d", v, e, f)
		}
		_, e = a.Load(cells)
		if f := a.Store(-1, 5); e != api.ErrRange || f != api.ErrRange {
			t.Errorf("one more step, of no cell: %d; %d", e, f)
		}
	}
	if l := a.Cells(); a.Steps() != maxSteps || l[0] != 1 || l[cells-1] != 9 {
		t.Errorf("%d steps, the cells %d and %d", a.Steps(), l[0], l[cells-1])
	}
}

// long checks the longest trace, as TestMaxSteps makes it.
func long(t *testing.T, a *arena.Arena, cells int) {
	t.Helper()
	l := a.Events()
	if len(l) != maxSteps {
		t.Fatalf("%d events", len(l))
	}
	for i, x := range l {
		want := api.TrEvent{Kind: 1, At: int32(i % cells)}
		if i < cells || i == maxSteps-1 {
			want.Kind = 2
		}
		if x != want {
			t.Fatalf("the step %d is %v; want %v", i, x, want)
		}
	}
	last, e := a.Since(maxSteps - 1)
	none, f := a.Since(maxSteps)
	if !slices.Equal(last, l[maxSteps-1:]) || len(none) != 0 || e != api.OK || f != api.OK {
		t.Errorf("Since: %v, %d; %v, %d", last, e, none, f)
	}
	if l, e := a.Since(maxSteps + 1); len(l) != 0 || e != api.ErrRange {
		t.Errorf("Since beyond the trace: %v, %d", l, e)
	}
}

// TestFresh changes results, also beyond their lengths: neither the arena nor another result changes (R3, P5.9).
func TestFresh(t *testing.T) {
	a, m := pair(t, 5)
	for i := range 12 {
		a.Store(i%5, uint64(i))
		m.store(i%5, uint64(i))
	}
	kept := a.Events()
	for range 2 {
		spoil(a.Events(), api.TrEvent{Kind: 9, At: 9})
		l, _ := a.Since(3)
		spoil(l, api.TrEvent{Kind: 9, At: 9})
		spoil(a.Cells(), 99)
		m.same(t, a)
		if !slices.Equal(kept, m.trace) {
			t.Fatalf("a trace that was returned before is %v", kept)
		}
	}
	cells := a.Cells()
	a.Store(0, 77)
	if cells[0] != 10 || len(kept) != 12 {
		t.Errorf("results that were returned before: %v, %v", cells, kept)
	}
}

// spoil writes to the whole memory of a slice.
func spoil[T any](l []T, x T) {
	l = l[:cap(l)]
	for i := range l {
		l[i] = x
	}
}

package arena_test

import (
	"math"
	"math/rand"
	"slices"
	"strconv"
	"testing"

	"dragnet/api"
	"dragnet/arena"
)

// TestNew tries each limit, and one beyond it (P5.1).
func TestNew(t *testing.T) {
	for _, cells := range []int{0, -1, 65537, 1 << 20, math.MaxInt, math.MinInt} {
		if a, e := arena.New(cells); a != nil || e != api.ErrRange {
			t.Errorf("New(%d): %v, %d", cells, a, e)
		}
	}
	for _, cells := range []int{1, 2, 4, 1000, 65535, 65536} {
		a, m := pair(t, cells)
		m.same(t, a)
		if v, e := a.Load(cells - 1); v != 0 || e != api.OK {
			t.Errorf("%d cells: Load of the last one: %d, %d", cells, v, e)
		}
		if v, e := a.Load(cells); v != 0 || e != api.ErrRange {
			t.Errorf("%d cells: Load beyond them: %d, %d", cells, v, e)
		}
	}
}

// TestNotMade calls every method of pointers that New did not return (R5).
func TestNotMade(t *testing.T) {
	a := made(t, 4)
	a.Store(1, 5)
	a.Region("a", 2)
	// The copy is another pointer, whatever it points to.
	another := *a
	for i, b := range []*arena.Arena{nil, {}, new(arena.Arena), &another} {
		region(t, b, "b", 1, 0, api.ErrNil)
		region(t, b, "", -1, 0, api.ErrNil)
		if r, e := b.Find("a"); r != (api.ArRegion{}) || e != api.ErrNil {
			t.Errorf("%d: Find: %v, %d", i, r, e)
		}
		if v, e := b.Load(1); v != 0 || e != api.ErrNil {
			t.Errorf("%d: Load: %d, %d", i, v, e)
		}
		if l, e := b.Since(0); len(l) != 0 || e != api.ErrNil {
			t.Errorf("%d: Since: %v, %d", i, l, e)
		}
		if l, e := b.Since(-1); len(l) != 0 || e != api.ErrNil {
			t.Errorf("%d: Since -1: %v, %d", i, l, e)
		}
		for j, e := range []api.Errno{b.Has(0, 0), b.Has(-1, -1), b.Room(0), b.Room(-1), b.Store(1, 9), b.Store(-1, 9), b.Forget()} {
			if e != api.ErrNil {
				t.Errorf("%d: the call %d returns %d", i, j, e)
			}
		}
		if len(b.Regions()) != 0 || b.Steps() != 0 || len(b.Events()) != 0 || len(b.Cells()) != 0 {
			t.Errorf("%d: %v, %d, %v, %v", i, b.Regions(), b.Steps(), b.Events(), b.Cells())
		}
	}
	m := &model{[]uint64{0, 5, 0, 0}, []api.ArRegion{{Name: "a", Size: 2}}, []api.TrEvent{{Kind: 2, At: 1}}}
	m.same(t, a)
}

// TestHas tries all small numbers, and the largest ones; nothing is logged (P5.2, P5.7).
func TestHas(t *testing.T) {
	for cells := 1; cells <= 6; cells++ {
		a, m := pair(t, cells)
		a.Region("a", 1)
		m.region("a", 1)
		for from := -3; from < 10; from++ {
			for n := -3; n < 10; n++ {
				if e := a.Has(from, n); e != m.has(from, n) {
					t.Errorf("%d cells: Has(%d, %d): %d", cells, from, n, e)
				}
			}
		}
		for _, x := range [][2]int{
			{math.MaxInt, math.MaxInt}, {math.MaxInt, 0}, {math.MaxInt, 1}, {0, math.MaxInt}, {1, math.MaxInt}, {cells, math.MaxInt},
			{math.MinInt, math.MinInt}, {math.MinInt, 0}, {math.MinInt, math.MaxInt}, {0, math.MinInt}, {cells, math.MinInt}, {-1, math.MaxInt},
		} {
			if e := a.Has(x[0], x[1]); e != api.ErrRange {
				t.Errorf("%d cells: Has(%d, %d): %d", cells, x[0], x[1], e)
			}
		}
		m.same(t, a)
	}
}

// TestLargeHas has the largest arena (P5.2).
func TestLargeHas(t *testing.T) {
	a := made(t, 65536)
	for _, x := range []struct {
		from, n int
		want    api.Errno
	}{
		{0, 65536, api.OK}, {0, 65537, api.ErrRange}, {1, 65535, api.OK}, {1, 65536, api.ErrRange}, {65535, 1, api.OK}, {65535, 2, api.ErrRange}, {65536, 0, api.OK}, {65536, 1, api.ErrRange}, {65537, 0, api.ErrRange}, {65537, -1, api.ErrRange},
	} {
		if e := a.Has(x.from, x.n); e != x.want {
			t.Errorf("Has(%d, %d): %d", x.from, x.n, e)
		}
	}
}

// TestExample has the rows of the chapter's examples that load, store and ask.
func TestExample(t *testing.T) {
	a := made(t, 4)
	if e := a.Store(3, 7); e != api.OK {
		t.Errorf("Store 3, 7: %d", e)
	}
	for _, x := range []struct {
		at   int
		v    uint64
		want api.Errno
	}{{3, 7, api.OK}, {4, 0, api.ErrRange}, {0, 0, api.OK}} {
		if v, e := a.Load(x.at); v != x.v || e != x.want {
			t.Errorf("Load %d: %d, %d", x.at, v, e)
		}
	}
	if n, l := a.Steps(), a.Events(); n != 3 || !slices.Equal(l, []api.TrEvent{{Kind: 2, At: 3}, {Kind: 1, At: 3}, {Kind: 1, At: 0}}) {
		t.Errorf("Steps: %d; Events: %v", n, l)
	}
	if l, e := a.Since(2); !slices.Equal(l, []api.TrEvent{{Kind: 1, At: 0}}) || e != api.OK {
		t.Errorf("Since 2: %v, %d", l, e)
	}
	for _, x := range []struct {
		from, n int
		want    api.Errno
	}{{2, 2, api.OK}, {2, 3, api.ErrRange}, {4, 0, api.OK}, {5, 0, api.ErrRange}, {-1, 1, api.ErrRange}} {
		if e := a.Has(x.from, x.n); e != x.want {
			t.Errorf("Has %d, %d: %d", x.from, x.n, e)
		}
	}
	if e, f := a.Room(8388605), a.Room(8388606); e != api.OK || f != api.ErrLong {
		t.Errorf("Room: %d, %d", e, f)
	}
	if a.Forget(); a.Room(8388606) != api.OK {
		t.Errorf("Room after Forget: %d", a.Room(8388606))
	}
}

// TestCells stores large values in cells at the ends, and looks at all others (P5.3, P5.6).
func TestCells(t *testing.T) {
	a, m := pair(t, 65536)
	for _, at := range []int{0, 65535, 1, 32768, 255, 256, 65534, 0, -1, 65536, math.MaxInt, math.MinInt, 1 << 32, -65536} {
		for _, v := range []uint64{math.MaxUint64, 1 << 63, 0, 1, 0x0123456789abcdef} {
			if e, want := a.Store(at, v), m.store(at, v); e != want {
				t.Errorf("Store(%d, %d): %d; want %d", at, v, e, want)
			}
			v, e := a.Load(at)
			if w, want := m.load(at); v != w || e != want {
				t.Errorf("Load(%d): %d, %d; want %d, %d", at, v, e, w, want)
			}
		}
	}
	m.same(t, a)
}

// TestRandom makes random calls of arenas of different sizes in turn, which are independent, and compares each with its model (P5.1 to P5.8, R6).
func TestRandom(t *testing.T) {
	r := rand.New(rand.NewSource(5))
	var arenas []*arena.Arena
	var models []*model
	for _, cells := range []int{1, 3, 17, 300} {
		a, m := pair(t, cells)
		arenas, models = append(arenas, a), append(models, m)
	}
	for range 6000 {
		i := r.Intn(len(arenas))
		call(t, r, arenas[i], models[i])
		if r.Intn(40) == 0 {
			models[i].same(t, arenas[i])
		}
	}
	for i, m := range models {
		m.same(t, arenas[i])
	}
}

// call makes one random call of an arena and of its model.
func call(t *testing.T, r *rand.Rand, a *arena.Arena, m *model) {
	t.Helper()
	at := r.Intn(len(m.cells)+4) - 2
	switch n := r.Intn(100); {
	case n < 40:
		v, e := a.Load(at)
		if w, f := m.load(at); v != w || e != f {
			t.Fatalf("Load(%d): %d, %d; want %d, %d", at, v, e, w, f)
		}
	case n < 80:
		v := r.Uint64() >> r.Intn(64)
		if e, f := a.Store(at, v), m.store(at, v); e != f {
			t.Fatalf("Store(%d): %d; want %d", at, e, f)
		}
	case n < 88:
		name := "r" + strconv.Itoa(r.Intn(100))
		size := r.Intn(8) - 1
		base, e := m.region(name, size)
		region(t, a, name, size, base, e)
	case n < 96:
		size := r.Intn(6) - 1
		if e, f := a.Has(at, size), m.has(at, size); e != f {
			t.Fatalf("Has(%d, %d): %d; want %d", at, size, e, f)
		}
	case n < 99:
		since(t, a, m, r.Intn(len(m.trace)+4)-2)
	case r.Intn(4) == 0:
		m.trace = nil
		if e := a.Forget(); e != api.OK {
			t.Fatalf("Forget: %d", e)
		}
	}
}

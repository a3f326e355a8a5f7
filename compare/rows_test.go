package compare_test

import (
	"math"
	"math/rand"
	"slices"
	"testing"

	"dragnet/api"
	"dragnet/arena"
	"dragnet/compare"
)

// rows calls EqualRows, LessRows and Exchange, and compares them with the model.
func rows(t *testing.T, a *arena.Arena, m *model, x, y, n int) {
	t.Helper()
	equal, e := compare.EqualRows(a, x, y, n)
	order, f := m.compare(x, y, n)
	if e != f || equal != told(f == api.OK && order == 0) {
		t.Errorf("EqualRows(%d, %d, %d) of %v: %x, %d; want %d, %d", x, y, n, m.cells, equal, e, order, f)
	}
	m.same(t, a)
	less, e := compare.LessRows(a, x, y, n)
	order, f = m.compare(x, y, n)
	if e != f || less != told(f == api.OK && order < 0) {
		t.Errorf("LessRows(%d, %d, %d) of %v: %x, %d; want %d, %d", x, y, n, m.cells, less, e, order, f)
	}
	m.same(t, a)
	if e, f := compare.Exchange(a, x, y, n), m.exchange(x, y, n); e != f {
		t.Errorf("Exchange(%d, %d, %d) of %v: %d; want %d", x, y, n, m.cells, e, f)
	}
	m.same(t, a)
}

// TestSmallRows has all rows of small arenas, those that overlap, and those that are not there, among them (P8.2, P8.3, P8.8).
func TestSmallRows(t *testing.T) {
	r := rand.New(rand.NewSource(82))
	for cells := 1; cells <= 7; cells++ {
		for range 12 {
			values := random(r, cells)
			for x := -2; x < cells+2; x++ {
				for y := -2; y < cells+2; y++ {
					for n := -1; n < 6; n++ {
						a, m := pair(t, values...)
						rows(t, a, m, x, y, n)
					}
				}
			}
		}
	}
}

// TestLongRows tries each limit of n, and one beyond it (P8.2, P8.3, P8.8).
func TestLongRows(t *testing.T) {
	values := random(rand.New(rand.NewSource(83)), 130)
	for _, n := range []int{1, 2, 63, 64, 65, 66, 128, 0, -1, -64, 1<<32 + 1, math.MaxInt, math.MinInt} {
		for _, x := range [][2]int{{0, 65}, {65, 0}, {0, 64}, {64, 0}, {63, 0}, {0, 63}, {2, 66}, {66, 2}, {67, 2}, {2, 67}, {0, 129}, {0, 130}, {130, 0}, {-1, 64}, {64, -1}, {5, 5}, {math.MaxInt, 0}, {0, math.MaxInt}, {math.MinInt, 0}, {0, math.MinInt}, {math.MaxInt, math.MaxInt - 5}} {
			a, m := pair(t, values...)
			rows(t, a, m, x[0], x[1], n)
		}
	}
}

// TestWhereRowsDiffer has long rows that differ in one cell, or in two of which the first one decides (P8.2, P8.3).
func TestWhereRowsDiffer(t *testing.T) {
	for n := 1; n <= 64; n++ {
		for i := range n {
			values := make([]uint64, 2*n)
			for k := range n {
				values[k], values[n+k] = uint64(k)<<40, uint64(k)<<40
			}
			a, m := pair(t, values...)
			rows(t, a, m, 0, n, n)
			values[i]++
			a, m = pair(t, values...)
			rows(t, a, m, 0, n, n)
			a, m = pair(t, values...)
			rows(t, a, m, n, 0, n)
			values[2*n-1] += 2
			a, m = pair(t, values...)
			rows(t, a, m, 0, n, n)
		}
	}
}

// TestOverlappingRows compares rows that have cells in common, which are none to be exchanged (P8.2, P8.3).
func TestOverlappingRows(t *testing.T) {
	a, m := pair(t, 4, 4, 4, 5)
	for i, x := range []struct {
		x, y, n     int
		equal, less uint64
	}{{0, 1, 2, ones, 0}, {0, 1, 3, 0, ones}, {1, 0, 3, 0, 0}, {2, 2, 2, ones, 0}, {0, 0, 4, ones, 0}} {
		if k, e := compare.EqualRows(a, x.x, x.y, x.n); k != x.equal || e != api.OK {
			t.Errorf("%d: EqualRows: %x, %d", i, k, e)
		}
		if k, e := compare.LessRows(a, x.x, x.y, x.n); k != x.less || e != api.OK {
			t.Errorf("%d: LessRows: %x, %d", i, k, e)
		}
		a.Forget()
		if e := compare.Exchange(a, x.x, x.y, x.n); e != api.ErrArg {
			t.Errorf("%d: Exchange: %d", i, e)
		}
		m.same(t, a)
	}
}

// TestOrdersOfRows has the orders of rows (P8.5).
func TestOrdersOfRows(t *testing.T) {
	r := rand.New(rand.NewSource(85))
	for range 3000 {
		n := 1 + r.Intn(4)
		values := random(r, 3*n)
		if r.Intn(2) == 0 {
			copy(values[n:], values[:1+r.Intn(n)])
		}
		a, _ := pair(t, values...)
		less := func(x, y int) uint64 { m, _ := compare.LessRows(a, x, y, n); return m }
		equal, _ := compare.EqualRows(a, 0, n, n)
		if less(0, n)&1+less(n, 0)&1+equal&1 != 1 {
			t.Errorf("%v: less %x, more %x, equal %x", values, less(0, n), less(n, 0), equal)
		}
		if less(0, n)&less(n, 2*n) != 0 && less(0, 2*n) == 0 {
			t.Errorf("%v: LessRows is not transitive", values)
		}
	}
}

// TestNotMade has arenas that New did not return: an n, or a table, that may not be comes first (P8.2, P8.3, P8.4, P8.8, R5).
func TestNotMade(t *testing.T) {
	made, m := pair(t, 5, 6, 7, 8)
	another := *made
	for i, a := range []*arena.Arena{nil, {}, &another} {
		for n, want := range map[int]api.Errno{0: api.ErrRange, -1: api.ErrRange, 65: api.ErrRange, 1: api.ErrNil, 2: api.ErrNil, 64: api.ErrNil} {
			for _, x := range [][2]int{{0, 2}, {0, 1}, {-1, 99}} {
				equal, e := compare.EqualRows(a, x[0], x[1], n)
				less, f := compare.LessRows(a, x[0], x[1], n)
				if e != want || f != want || equal != 0 || less != 0 {
					t.Errorf("%d: rows of %d: %d, %d, %x, %x", i, n, e, f, equal, less)
				}
				if e := compare.Exchange(a, x[0], x[1], n); e != want {
					t.Errorf("%d: Exchange of %d: %d", i, n, e)
				}
				if e := compare.Sort(a, x[0], 1, n); e != want {
					t.Errorf("%d: Sort of 1, %d: %d", i, n, e)
				}
			}
		}
		if e, f := compare.Sort(a, 0, 0, 1), compare.Sort(a, 0, 17, 1); e != api.ErrRange || f != api.ErrRange {
			t.Errorf("%d: Sort: %d, %d", i, e, f)
		}
	}
	m.same(t, made)
}

// TestRoom has just as many steps left as a call makes, and one less (P8.2, P8.3, P8.4).
func TestRoom(t *testing.T) {
	values := make([]uint64, 200)
	for i := range values {
		values[i] = uint64(200 - i)
	}
	a, m := pair(t, values...)
	for i, x := range []struct {
		steps int
		call  func() api.Errno
		model func() api.Errno
	}{
		{128, func() api.Errno { _, e := compare.EqualRows(a, 3, 9, 64); return e }, func() api.Errno { _, e := m.compare(3, 9, 64); return e }},
		{2, func() api.Errno { _, e := compare.LessRows(a, 4, 8, 1); return e }, func() api.Errno { _, e := m.compare(4, 8, 1); return e }},
		{258, func() api.Errno { return compare.Exchange(a, 10, 74, 64) }, func() api.Errno { return m.exchange(10, 74, 64) }},
		{6, func() api.Errno { return compare.Exchange(a, 1, 0, 1) }, func() api.Errno { return m.exchange(1, 0, 1) }},
		{18 * 120, func() api.Errno { return compare.Sort(a, 100, 16, 4) }, func() api.Errno { return m.sort(100, 16, 4) }},
		{130, func() api.Errno { return compare.Sort(a, 20, 2, 32) }, func() api.Errno { return m.sort(20, 2, 32) }},
	} {
		fill(t, a, x.steps-1)
		if e := x.call(); e != api.ErrLong || a.Steps() != api.MaxSteps-x.steps+1 || !slices.Equal(a.Cells(), m.cells) {
			t.Errorf("%d: %d steps left: %d, %d steps made", i, x.steps-1, e, a.Steps())
		}
		fill(t, a, x.steps)
		if e, f := x.call(), x.model(); e != api.OK || f != api.OK || a.Room(1) != api.ErrLong {
			t.Errorf("%d: %d steps left: %d, %d", i, x.steps, e, f)
		}
		if l, _ := a.Since(api.MaxSteps - x.steps); !slices.Equal(l, m.trace) || !slices.Equal(a.Cells(), m.cells) {
			t.Errorf("%d: %d steps left: %v, %v", i, x.steps, l, a.Cells())
		}
		m.trace = nil
	}
	full(t, a)
}

// full calls with the errors that come before that of Room, when too few steps are left.
func full(t *testing.T, a *arena.Arena) {
	t.Helper()
	fill(t, a, 1)
	equal, e := compare.EqualRows(a, 0, 1, 1)
	less, f := compare.LessRows(a, 1, 0, 1)
	if e != api.ErrLong || f != api.ErrLong || equal != 0 || less != 0 {
		t.Errorf("no steps left: %x, %d, %x, %d", equal, e, less, f)
	}
	for i, x := range [][2]api.Errno{
		{compare.Exchange(a, 0, 1, 1), api.ErrLong}, {compare.Exchange(a, 0, 1, 2), api.ErrArg}, {compare.Exchange(a, 0, 199, 2), api.ErrRange}, {compare.Exchange(a, 199, 0, 2), api.ErrRange}, {compare.Exchange(a, 199, 199, 2), api.ErrRange}, {compare.Exchange(a, 0, 0, 0), api.ErrRange},
		{compare.Sort(a, 0, 2, 1), api.ErrLong}, {compare.Sort(a, 199, 2, 1), api.ErrRange}, {compare.Sort(a, 0, 17, 1), api.ErrRange}, {compare.Sort(a, 0, 1, 64), api.OK},
	} {
		if x[0] != x[1] {
			t.Errorf("the call %d returns %d; want %d", i, x[0], x[1])
		}
	}
	if a.Room(1) != api.OK {
		t.Errorf("%d steps made", a.Steps())
	}
}

// TestLargestArena has rows, and a table, at the end of the largest arena (P8.2, P8.3, P8.4).
func TestLargestArena(t *testing.T) {
	a, _ := pair(t, make([]uint64, 65536)...)
	for i := range 64 {
		a.Store(65408+i, uint64(64-i))
	}
	if m, e := compare.LessRows(a, 65472, 65408, 64); m != ones || e != api.OK {
		t.Errorf("LessRows: %x, %d", m, e)
	}
	if e, f := compare.Exchange(a, 65408, 65472, 64), compare.Sort(a, 65472, 16, 4); e != api.OK || f != api.OK {
		t.Errorf("Exchange, Sort: %d, %d", e, f)
	}
	if l := a.Cells()[65408:]; l[0] != 0 || !slices.Equal(l[64:70], []uint64{4, 3, 2, 1, 8, 7}) || !slices.Equal(l[124:], []uint64{64, 63, 62, 61}) {
		t.Errorf("%v", l)
	}
	for _, x := range [][2]int{{65473, 0}, {0, 65473}} {
		if e, f := compare.Exchange(a, x[0], x[1], 64), compare.Sort(a, max(x[0], x[1]), 16, 4); e != api.ErrRange || f != api.ErrRange {
			t.Errorf("%v: %d, %d", x, e, f)
		}
	}
}

// TestExampleRows has the rows of the chapter's examples with rows.
func TestExampleRows(t *testing.T) {
	a, m := pair(t, 3, 9, 1, 7, 3, 5)
	first, e := compare.LessRows(a, 0, 4, 2)
	second, f := compare.LessRows(a, 4, 0, 2)
	if e != api.OK || f != api.OK || first != 0 || second != ones {
		t.Errorf("LessRows: %x, %d, %x, %d", first, e, second, f)
	}
	a.Forget()
	if k, e := compare.EqualRows(a, 0, 4, 1); k != ones || e != api.OK || !slices.Equal(a.Events(), steps(1, 0, 1, 4)) {
		t.Errorf("EqualRows: %x, %d, %v", k, e, a.Events())
	}
	a.Forget()
	if e := compare.Exchange(a, 0, 1, 2); e != api.ErrArg {
		t.Errorf("Exchange: %d", e)
	}
	m.same(t, a)
	if e := compare.Exchange(a, 0, 2, 2); e != api.OK || !slices.Equal(a.Cells(), []uint64{1, 7, 3, 9, 3, 5}) {
		t.Errorf("Exchange: %d, %v", e, a.Cells())
	}
	if l := a.Events(); !slices.Equal(l, steps(1, 0, 1, 2, 1, 0, 1, 2, 2, 0, 2, 2, 1, 1, 1, 3, 2, 1, 2, 3)) {
		t.Errorf("Exchange: %v", l)
	}
}

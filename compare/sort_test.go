package compare_test

import (
	"math"
	"math/rand"
	"slices"
	"testing"

	"dragnet/api"
	"dragnet/arena"
	"dragnet/compare"
)

// TestTables sorts tables of all sizes, and of those just beyond them (P8.4, P8.7).
func TestTables(t *testing.T) {
	r := rand.New(rand.NewSource(84))
	for many := -1; many <= 18; many++ {
		for n := -1; n <= 66; n++ {
			a, m := pair(t, random(r, 90)...)
			base := r.Intn(26)
			if e, f := compare.Sort(a, base, many, n), m.sort(base, many, n); e != f {
				t.Errorf("Sort(%d, %d, %d): %d; want %d", base, many, n, e, f)
			}
			m.same(t, a)
		}
	}
}

// TestSizesBeyond has numbers of rows and cells whose product does not fit in an int, or is small only because of that (P8.4, P8.8).
func TestSizesBeyond(t *testing.T) {
	a, m := pair(t, random(rand.New(rand.NewSource(86)), 70)...)
	beyond := []int{math.MaxInt, math.MinInt, 1 << 62, 1<<62 + 1, 1 << 61, 1<<60 + 1, 1 << 32, -1 << 62, -1, 0, 65}
	for _, x := range beyond {
		for _, y := range append([]int{1, 2, 4, 8, 16, 17, 64}, beyond...) {
			if e, f := compare.Sort(a, 0, x, y), compare.Sort(a, 0, y, x); e != api.ErrRange || f != api.ErrRange {
				t.Errorf("Sort of %d and %d: %d, %d", x, y, e, f)
			}
		}
	}
	m.same(t, a)
}

// TestBases has tables that begin too early, or end too late (P8.4, P8.8).
func TestBases(t *testing.T) {
	r := rand.New(rand.NewSource(87))
	for _, base := range []int{math.MinInt, math.MinInt + 1, -64, -1, 0, 1, 5, 6, 7, 8, 69, 70, 71, 1 << 32, math.MaxInt - 64, math.MaxInt} {
		for _, size := range [][2]int{{1, 1}, {1, 64}, {2, 32}, {3, 21}, {16, 4}, {16, 1}, {13, 5}} {
			a, m := pair(t, random(r, 70)...)
			if e, f := compare.Sort(a, base, size[0], size[1]), m.sort(base, size[0], size[1]); e != f {
				t.Errorf("Sort(%d, %d, %d): %d; want %d", base, size[0], size[1], e, f)
			}
			m.same(t, a)
		}
	}
}

// TestStable sorts rows with few keys, whose other cells say which row it is (P8.7).
func TestStable(t *testing.T) {
	r := rand.New(rand.NewSource(88))
	for range 500 {
		many, keys := 1+r.Intn(16), 1+r.Intn(4)
		values := []uint64{ones}
		for i := range many {
			values = append(values, ones-uint64(r.Intn(keys)), uint64(many-i))
		}
		a, _ := pair(t, append(values, 1)...)
		if e := compare.Sort(a, 1, many, 2); e != api.OK {
			t.Fatalf("Sort(1, %d, 2): %d", many, e)
		}
		l := a.Cells()
		if l[0] != ones || l[len(l)-1] != 1 {
			t.Errorf("cells beside the table: %v", l)
		}
		seen := map[uint64]uint64{l[2]: l[1]}
		for i := 3; i < len(l)-1; i += 2 {
			if l[i] < l[i-2] || l[i] == l[i-2] && l[i+1] >= l[i-1] {
				t.Errorf("%v of %v", l, values)
			}
			seen[l[i+1]] = l[i]
		}
		for i := 1; i < len(values); i += 2 {
			if seen[values[i+1]] != values[i] {
				t.Errorf("%v has not the rows of %v", l, values)
			}
		}
	}
}

// call makes a call of a kind.
func call(a *arena.Arena, kind, x, y, many, n int) api.Errno {
	var e api.Errno
	switch kind {
	case 0:
		_, e = compare.EqualRows(a, x, y, n)
	case 1:
		_, e = compare.LessRows(a, x, y, n)
	case 2:
		e = compare.Exchange(a, x, y, n)
	case 3:
		e = compare.Sort(a, x, many, n)
	}
	return e
}

// TestBlind makes random calls of two arenas with other values: they have the same steps and the same errors (P8.6).
func TestBlind(t *testing.T) {
	r := rand.New(rand.NewSource(89))
	a, _ := pair(t, random(r, 100)...)
	b, _ := pair(t, make([]uint64, 100)...)
	for range 5000 {
		kind, x, y, many, n := r.Intn(4), r.Intn(102)-1, r.Intn(102)-1, r.Intn(18), r.Intn(30)
		if kind == 3 {
			n = r.Intn(8)
		}
		if e, f := call(a, kind, x, y, many, n), call(b, kind, x, y, many, n); e != f {
			t.Fatalf("call %d of %d, %d, %d, %d: %d, %d", kind, x, y, many, n, e, f)
		}
		if !slices.Equal(a.Events(), b.Events()) {
			t.Fatalf("call %d of %d, %d, %d, %d: other steps", kind, x, y, many, n)
		}
		at, v := r.Intn(100), r.Uint64()
		a.Store(at, v)
		b.Store(at, v>>60)
		a.Forget()
		b.Forget()
	}
}

// TestExampleSort has the rows of the chapter's examples that sort.
func TestExampleSort(t *testing.T) {
	a, m := pair(t, 3, 9, 1, 7, 3, 5)
	if e := compare.Sort(a, 0, 33, 2); e != api.ErrRange {
		t.Errorf("Sort: %d", e)
	}
	m.same(t, a)
	if e := compare.Sort(a, 0, 3, 2); e != api.OK || a.Steps() != 30 || !slices.Equal(a.Cells(), []uint64{1, 7, 3, 9, 3, 5}) {
		t.Errorf("Sort: %d, %d steps, %v", e, a.Steps(), a.Cells())
	}
}

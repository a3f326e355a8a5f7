package trace_test

import (
	"math"
	"math/rand"
	"slices"
	"testing"

	"dragnet/api"
	"dragnet/trace"
)

// check compares a call of Check with what it has to return.
func check(t *testing.T, l []api.TrEvent, cells, at int, want api.Errno) {
	t.Helper()
	if i, e := trace.Check(l, cells); i != at || e != want {
		t.Errorf("Check(%d steps, %d): %d, %d; want %d, %d", len(l), cells, i, e, at, want)
	}
}

// TestCheckCells tries each limit of cells, and one beyond it; they are looked at before the steps (P6.1).
func TestCheckCells(t *testing.T) {
	bad := []api.TrEvent{{Kind: 9, At: -1}}
	for _, cells := range []int{0, -1, 65537, 1 << 32, 1<<32 + 1, math.MaxInt, math.MinInt} {
		check(t, nil, cells, -1, api.ErrRange)
		check(t, sample(), cells, -1, api.ErrRange)
		check(t, bad, cells, -1, api.ErrRange)
	}
	for _, cells := range []int{1, 2, 8, 65535, 65536} {
		last := int32(cells - 1)
		check(t, nil, cells, 0, api.OK)
		check(t, []api.TrEvent{}, cells, 0, api.OK)
		check(t, []api.TrEvent{load(0), store(last), load(last), store(0)}, cells, 0, api.OK)
		check(t, []api.TrEvent{load(0), store(last + 1), load(0)}, cells, 1, api.ErrRange)
		check(t, []api.TrEvent{load(-1)}, cells, 0, api.ErrRange)
		check(t, bad, cells, 0, api.ErrArg)
	}
	check(t, sample(), 8, 0, api.OK)
	check(t, sample(), 7, 4, api.ErrRange)
}

// TestCheckSteps has steps that are none: the first one counts, and its kind is looked at first (P6.1).
func TestCheckSteps(t *testing.T) {
	for _, kind := range []int32{0, 3, -1, -2, 257, 1 << 30, math.MaxInt32, math.MinInt32} {
		for i := range 3 {
			l := []api.TrEvent{load(1), store(2), load(3), {Kind: 9, At: 9}}
			l[i].Kind = kind
			check(t, l, 4, i, api.ErrArg)
			l[i].At = 4
			check(t, l, 4, i, api.ErrArg)
		}
	}
	for _, at := range []int32{-1, 4, 5, 65536, math.MaxInt32, math.MinInt32} {
		for i := range 3 {
			l := []api.TrEvent{load(1), store(2), load(3), {Kind: 9, At: 9}}
			l[i].At = at
			check(t, l, 4, i, api.ErrRange)
		}
	}
	r := rand.New(rand.NewSource(61))
	for range 3000 {
		l, cells := anyTrace(r), r.Intn(16)-1
		before := slices.Clone(l)
		at, e := checkModel(l, cells)
		check(t, l, cells, at, e)
		if !slices.Equal(l, before) {
			t.Fatal("Check changed its argument")
		}
	}
}

// TestCheckLong has as many steps as there may be, and one more: that is told before any of them is looked at (P6.1, P6.4).
func TestCheckLong(t *testing.T) {
	l := make([]api.TrEvent, 1<<23+1)
	check(t, l, 1, -1, api.ErrLong)
	check(t, l, 0, -1, api.ErrRange)
	print(t, l, "", api.ErrLong)
	for i := range l {
		l[i].Kind = 1
	}
	check(t, l, 1, -1, api.ErrLong)
	check(t, l[1:], 1, 0, api.OK)
	print(t, l, "", api.ErrLong)
	print(t, l[1:], "", api.ErrLong)
	l[1<<23].At = 1
	check(t, l[1:], 1, 1<<23-1, api.ErrRange)
	// Count, Cut and Parts take more steps than are good.
	if n, e := trace.Count(l, 1); n != len(l) || e != api.OK {
		t.Errorf("Count: %d, %d", n, e)
	}
	if c, e := trace.Cut(l, 1<<23, 1<<23+1); !slices.Equal(c, []api.TrEvent{load(1)}) || e != api.OK {
		t.Errorf("Cut: %v, %d", c, e)
	}
	parts(t, l, []api.ArRegion{{Base: 1, Size: 1}}, []int{1, 1 << 23}, api.OK)
}

// TestDiffer has the chapter's examples, and lists that end or differ anywhere (P6.1).
func TestDiffer(t *testing.T) {
	full := sample()
	for n := range full {
		for _, other := range [][]api.TrEvent{full[:n], append(slices.Clone(full[:n]), load(9)), append(slices.Clone(full[:n]), api.TrEvent{Kind: 3 - full[n].Kind, At: full[n].At})} {
			if a, b := trace.Differ(full, other), trace.Differ(other, full); a != n || b != n {
				t.Errorf("Differ of T and %v: %d, %d; want %d", other, a, b, n)
			}
		}
	}
	for _, l := range [][]api.TrEvent{nil, {}, full, full[:1]} {
		if i := trace.Differ(l, slices.Clone(l)); i != -1 {
			t.Errorf("Differ of %v and itself: %d", l, i)
		}
	}
	if a, b := trace.Differ(nil, []api.TrEvent{}), trace.Differ([]api.TrEvent{}, nil); a != -1 || b != -1 {
		t.Errorf("Differ of no steps: %d, %d", a, b)
	}
	// A step that is zero is not the same as none.
	if a, b := trace.Differ(nil, []api.TrEvent{{}}), trace.Differ([]api.TrEvent{{}}, nil); a != 0 || b != 0 {
		t.Errorf("Differ of no step and of a zero one: %d, %d", a, b)
	}
}

// TestDifferProperties has random traces that share a beginning (P6.1, P6.6).
func TestDifferProperties(t *testing.T) {
	r := rand.New(rand.NewSource(62))
	for range 5000 {
		first := anyTrace(r)
		a, b := append(slices.Clone(first), anyTrace(r)...), append(slices.Clone(first), anyTrace(r)...)
		i := trace.Differ(a, b)
		if want := differModel(a, b); i != want || trace.Differ(b, a) != want {
			t.Fatalf("Differ of %v and %v: %d; want %d", a, b, i, want)
		}
		if (i == -1) != slices.Equal(a, b) {
			t.Fatalf("%v and %v: %d", a, b, i)
		}
		if i >= 0 && !slices.Equal(a[:i], b[:i]) {
			t.Fatalf("%v and %v are not equal before %d", a, b, i)
		}
		if trace.Digest(a) != trace.Digest(b) && i == -1 {
			t.Fatalf("%v has two digests", a)
		}
	}
}

// TestCut tries all small ends of a trace, and the largest ones (P6.1).
func TestCut(t *testing.T) {
	full := sample()
	for _, n := range []int{0, 1, 5} {
		for from := -3; from < 9; from++ {
			for to := -3; to < 9; to++ {
				l, e := trace.Cut(full[:n:n], from, to)
				if from < 0 || to < from || n < to {
					if len(l) != 0 || e != api.ErrRange {
						t.Errorf("Cut(%d steps, %d, %d): %v, %d", n, from, to, l, e)
					}
					continue
				}
				if !slices.Equal(l, full[from:to]) || e != api.OK {
					t.Errorf("Cut(%d steps, %d, %d): %v, %d", n, from, to, l, e)
				}
			}
		}
	}
	for _, x := range [][2]int{{math.MinInt, 0}, {0, math.MaxInt}, {math.MaxInt, math.MaxInt}, {math.MinInt, math.MinInt}, {math.MaxInt, math.MinInt}, {1, math.MinInt}, {1 << 32, 1<<32 + 1}} {
		if l, e := trace.Cut(full, x[0], x[1]); len(l) != 0 || e != api.ErrRange {
			t.Errorf("Cut(%d, %d): %v, %d", x[0], x[1], l, e)
		}
	}
	if l, e := trace.Cut(nil, 0, 0); len(l) != 0 || e != api.OK {
		t.Errorf("Cut of no steps: %v, %d", l, e)
	}
	// Room after the end of the trace is not a part of it.
	if l, e := trace.Cut(full[:2], 0, 3); len(l) != 0 || e != api.ErrRange {
		t.Errorf("Cut beyond the end: %v, %d", l, e)
	}
}

// TestCutIsNew writes into results, into the room after them, and into the argument (P6.8, R3).
func TestCutIsNew(t *testing.T) {
	l := sample()
	for from := range 6 {
		for to := from; to < 6; to++ {
			a, _ := trace.Cut(l, from, to)
			b, _ := trace.Cut(l, from, to)
			for i := range a[:cap(a)] {
				a[:cap(a)][i] = load(99)
			}
			if !slices.Equal(l, sample()) || !slices.Equal(b, l[from:to]) {
				t.Fatalf("Cut(%d, %d) shares memory: %v, %v", from, to, l, b)
			}
		}
	}
	a, _ := trace.Cut(l, 0, 5)
	l[0] = store(1)
	if !slices.Equal(a, sample()) {
		t.Errorf("the cut changed with the trace: %v", a)
	}
}

// TestDigest has the chapter's examples, steps that are none, and random ones (P6.3).
func TestDigest(t *testing.T) {
	if d := trace.Digest(nil); d != 14695981039346656037 {
		t.Errorf("no steps: %d", d)
	}
	if d := trace.Digest([]api.TrEvent{}); d != 14695981039346656037 {
		t.Errorf("an empty trace: %d", d)
	}
	want := uint64(14695981039346656037)
	for _, b := range []uint64{1, 0, 0, 0, 0} {
		want = (want ^ b) * 1099511628211
	}
	if d := trace.Digest([]api.TrEvent{load(0)}); d != want {
		t.Errorf("load 0: %d; want %d", d, want)
	}
	for _, s := range []api.TrEvent{{}, load(1), store(0), load(256), load(65535), load(1 << 16), load(1 << 24), {Kind: 257, At: 0}, {Kind: -1, At: -1}, {Kind: math.MinInt32, At: math.MinInt32}, {Kind: math.MaxInt32, At: math.MaxInt32}, {Kind: 1, At: 0x01020304}} {
		if d, want := trace.Digest([]api.TrEvent{s}), digestModel([]api.TrEvent{s}); d != want {
			t.Errorf("%v: %d; want %d", s, d, want)
		}
	}
	// The kind is taken modulo 2^8.
	if trace.Digest([]api.TrEvent{{Kind: 257, At: 5}}) != trace.Digest([]api.TrEvent{load(5)}) {
		t.Error("the kind 257 is not digested as 1")
	}
	r := rand.New(rand.NewSource(63))
	for range 1000 {
		l := anyTrace(r)
		before := slices.Clone(l)
		if d, want := trace.Digest(l), digestModel(l); d != want {
			t.Fatalf("%v: %d; want %d", l, d, want)
		}
		if !slices.Equal(l, before) {
			t.Fatal("Digest changed its argument")
		}
	}
}

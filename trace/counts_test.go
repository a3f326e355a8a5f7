package trace_test

import (
	"math"
	"math/rand"
	"slices"
	"testing"

	"dragnet/api"
	"dragnet/trace"
)

// TestCount has the chapter's example, numbers that are no kinds, and steps of no kind (P6.1).
func TestCount(t *testing.T) {
	l := append(sample(), api.TrEvent{}, api.TrEvent{Kind: 3, At: 5}, api.TrEvent{Kind: -1, At: 5}, api.TrEvent{Kind: 257, At: 5}, api.TrEvent{Kind: 1, At: -7}, api.TrEvent{Kind: 2, At: math.MaxInt32})
	for _, x := range []struct {
		l    []api.TrEvent
		kind int
		want int
	}{
		{sample(), 1, 3}, {sample(), 2, 2}, {nil, 1, 0}, {[]api.TrEvent{}, 2, 0}, {l, 1, 4}, {l, 2, 3}, {sample()[:2], 2, 0},
	} {
		if n, e := trace.Count(x.l, x.kind); n != x.want || e != api.OK {
			t.Errorf("Count(%v, %d): %d, %d; want %d", x.l, x.kind, n, e, x.want)
		}
	}
	for _, kind := range []int{0, 3, -1, -2, 257, 1<<32 + 1, math.MaxInt, math.MinInt} {
		for _, x := range [][]api.TrEvent{nil, l} {
			if n, e := trace.Count(x, kind); n != 0 || e != api.ErrArg {
				t.Errorf("Count(%v, %d): %d, %d", x, kind, n, e)
			}
		}
	}
}

// parts compares a call of Parts with what it has to return.
func parts(t *testing.T, l []api.TrEvent, r []api.ArRegion, want []int, e api.Errno) {
	t.Helper()
	if got, f := trace.Parts(l, r); !slices.Equal(got, want) || f != e {
		t.Errorf("Parts(%d steps, %v): %v, %d; want %v, %d", len(l), r, got, f, want, e)
	}
}

// TestParts has the chapter's example, no regions, and steps of any kind and address (P6.2).
func TestParts(t *testing.T) {
	two := []api.ArRegion{{Base: 5, Size: 1}, {Base: 6, Size: 1}}
	parts(t, sample(), two, []int{1, 3, 1}, api.OK)
	parts(t, sample(), []api.ArRegion{two[1], two[0]}, []int{3, 1, 1}, api.OK)
	parts(t, nil, two, []int{0, 0, 0}, api.OK)
	parts(t, sample(), nil, []int{5}, api.OK)
	parts(t, sample(), []api.ArRegion{}, []int{5}, api.OK)
	parts(t, nil, nil, []int{0}, api.OK)
	parts(t, sample(), []api.ArRegion{{Base: 0, Size: 65536}}, []int{5, 0}, api.OK)
	// Names are not looked at: one that is none, and one that two regions have.
	parts(t, sample(), []api.ArRegion{{Name: "No name", Base: 5, Size: 2}, {Name: "a", Base: 7, Size: 1}, {Name: "a", Base: 8, Size: 1}}, []int{4, 1, 0, 0}, api.OK)
	odd := []api.TrEvent{{}, {Kind: 9, At: 1}, {Kind: -1, At: 65535}, load(65536), load(-1), {Kind: math.MaxInt32, At: math.MaxInt32}, {Kind: math.MinInt32, At: math.MinInt32}, load(65534)}
	parts(t, odd, []api.ArRegion{{Base: 1, Size: 65534}, {Base: 65535, Size: 1}}, []int{2, 1, 5}, api.OK)
	parts(t, odd, nil, []int{8}, api.OK)
}

// TestPartsRange tries each limit of a region, and one beyond it; that comes before cells in common (P6.2).
func TestPartsRange(t *testing.T) {
	for _, x := range []api.ArRegion{
		{Base: 0, Size: 1}, {Base: 0, Size: 65536}, {Base: 65535, Size: 1}, {Base: 1, Size: 65535}, {Base: 32768, Size: 32768},
	} {
		parts(t, nil, []api.ArRegion{x}, []int{0, 0}, api.OK)
		parts(t, nil, []api.ArRegion{x, x}, nil, api.ErrForm)
	}
	for _, x := range []api.ArRegion{
		{}, {Base: -1, Size: 1}, {Base: -1, Size: 65536}, {Base: 0, Size: 0}, {Base: 5, Size: 0}, {Base: 5, Size: -1}, {Base: 65536, Size: 1}, {Base: 65536, Size: 0},
		{Base: 0, Size: 65537}, {Base: 1, Size: 65536}, {Base: 65535, Size: 2}, {Base: 65537, Size: -1}, {Base: 65537, Size: 1}, {Base: 70000, Size: -5000},
		{Base: math.MaxInt, Size: 1}, {Base: 1, Size: math.MaxInt}, {Base: math.MaxInt, Size: math.MaxInt}, {Base: math.MinInt, Size: math.MaxInt}, {Base: math.MaxInt, Size: math.MinInt}, {Base: math.MinInt, Size: math.MinInt}, {Base: 0, Size: math.MinInt}, {Base: 1 << 32, Size: 1}, {Base: 0, Size: 1<<32 + 1},
	} {
		parts(t, sample(), []api.ArRegion{x}, nil, api.ErrRange)
		parts(t, sample(), []api.ArRegion{{Base: 5, Size: 1}, x}, nil, api.ErrRange)
		parts(t, sample(), []api.ArRegion{{Base: 5, Size: 1}, {Base: 5, Size: 1}, x}, nil, api.ErrRange)
	}
}

// TestPartsCommon tries all two small regions: they have a cell in common, or touch, or not even that (P6.2).
func TestPartsCommon(t *testing.T) {
	for base := range 7 {
		for size := 1; size < 5; size++ {
			for other := 1; other < 5; other++ {
				r := []api.ArRegion{{Base: base, Size: size}, {Base: 3, Size: other}}
				want, e := partsModel(sample(), r)
				parts(t, sample(), r, want, e)
				// A region between both in the list changes nothing.
				r = []api.ArRegion{r[0], {Base: 100, Size: 1}, r[1]}
				want, e = partsModel(sample(), r)
				parts(t, sample(), r, want, e)
			}
		}
	}
	parts(t, sample(), []api.ArRegion{{Base: 0, Size: 65536}, {Base: 65535, Size: 1}}, nil, api.ErrForm)
	parts(t, sample(), []api.ArRegion{{Base: 65535, Size: 1}, {Base: 0, Size: 65536}}, nil, api.ErrForm)
}

// TestManyParts has a region for each cell, more than an arena has (P6.2).
func TestManyParts(t *testing.T) {
	var r []api.ArRegion
	for at := 65535; at >= 0; at-- {
		r = append(r, api.ArRegion{Base: at, Size: 1})
	}
	got, e := trace.Parts([]api.TrEvent{load(0), store(65535), load(65535), load(65536)}, r)
	if len(got) != 65537 || e != api.OK || got[0] != 2 || got[65535] != 1 || got[65536] != 1 || slices.Index(got[1:65535], 1) != -1 {
		t.Errorf("%d parts, %d", len(got), e)
	}
	parts(t, nil, append(r, api.ArRegion{Base: 7, Size: 1}), nil, api.ErrForm)
}

// TestSums has random traces, regions, and traces one after the other (P6.2, P6.7, P6.8).
func TestSums(t *testing.T) {
	r := rand.New(rand.NewSource(64))
	for range 1500 {
		a, b := anyTrace(r), anyTrace(r)
		both := append(slices.Clone(a), b...)
		var regions []api.ArRegion
		for range r.Intn(4) {
			regions = append(regions, api.ArRegion{Base: r.Intn(14) - r.Intn(2), Size: 1 + r.Intn(3)})
		}
		old, before := slices.Clone(regions), slices.Clone(a)
		want, e := partsModel(a, regions)
		parts(t, a, regions, want, e)
		if e == api.OK {
			sums(t, a, b, both, regions)
		}
		for kind := 1; kind <= 2; kind++ {
			n, _ := trace.Count(a, kind)
			m, _ := trace.Count(b, kind)
			s, f := trace.Count(both, kind)
			if n != countModel(a, kind) || s != n+m || f != api.OK {
				t.Fatalf("Count(%v and %v, %d): %d, %d, %d, %d", a, b, kind, n, m, s, f)
			}
		}
		if !slices.Equal(a, before) || !slices.Equal(regions, old) {
			t.Fatal("an argument was changed")
		}
	}
}

// sums checks that parts are together all steps, and those of both traces the sums.
func sums(t *testing.T, a, b, both []api.TrEvent, regions []api.ArRegion) {
	t.Helper()
	p, _ := trace.Parts(a, regions)
	q, _ := trace.Parts(b, regions)
	all, e := trace.Parts(both, regions)
	together := 0
	for i := range all {
		if all[i] != p[i]+q[i] {
			t.Fatalf("Parts of %v and %v: %v, %v and %v", a, b, p, q, all)
		}
		together += p[i]
	}
	if e != api.OK || len(all) != len(regions)+1 || together != len(a) {
		t.Fatalf("Parts(%v): %v, %d", a, p, e)
	}
}

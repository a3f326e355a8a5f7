package arena_test

import (
	"math"
	"slices"
	"strconv"
	"strings"
	"testing"
	"unsafe"

	"dragnet/api"
	"dragnet/arena"
)

// region checks a call of Region.
func region(t *testing.T, a *arena.Arena, name string, size, base int, want api.Errno) {
	t.Helper()
	if b, e := a.Region(name, size); b != base || e != want {
		t.Fatalf("Region(%q, %d): %d, %d; want %d, %d", name, size, b, e, base, want)
	}
}

// TestRegionExample has the first row of the chapter's examples, and what Find and Regions say after it.
func TestRegionExample(t *testing.T) {
	a := made(t, 4)
	region(t, a, "a", 2, 0, api.OK)
	region(t, a, "b", 3, 0, api.ErrFull)
	if r, e := a.Find("b"); r != (api.ArRegion{}) || e != api.ErrNone {
		t.Errorf("Find of a region that was refused: %v, %d", r, e)
	}
	region(t, a, "b", 2, 2, api.OK)
	region(t, a, "a", 1, 0, api.ErrTwice)
	region(t, a, "c", 1, 0, api.ErrFull)
	want := []api.ArRegion{{Name: "a", Base: 0, Size: 2}, {Name: "b", Base: 2, Size: 2}}
	if l := a.Regions(); !slices.Equal(l, want) {
		t.Errorf("Regions: %v", l)
	}
	for _, r := range want {
		if found, e := a.Find(r.Name); found != r || e != api.OK {
			t.Errorf("Find(%q): %v, %d", r.Name, found, e)
		}
	}
	for _, name := range []string{"c", "", "A", "a ", "ab"} {
		if r, e := a.Find(name); r != (api.ArRegion{}) || e != api.ErrNone {
			t.Errorf("Find(%q): %v, %d", name, r, e)
		}
	}
}

// TestRegionNames tries names and strings that are none (P5.1).
func TestRegionNames(t *testing.T) {
	a, m := pair(t, 100)
	for _, name := range []string{
		"", "a", "A", "0", "-", "a-", "a0", "table", "a b", "a\x00", "é", "a_", "aB", " a",
		strings.Repeat("x", 16), strings.Repeat("x", 17), strings.Repeat("x", 4000), "a-b-c-0123456789", "a-b-c-0123456789x",
	} {
		base, want := m.region(name, 1)
		region(t, a, name, 1, base, want)
		m.same(t, a)
	}
}

// TestRegionErrors has calls to which several errors apply: the first one is returned, and nothing changes (P5.1, R2).
func TestRegionErrors(t *testing.T) {
	a, m := pair(t, 64)
	several := func() {
		t.Helper()
		region(t, a, "No", 0, 0, api.ErrForm)
		region(t, a, "", 1000, 0, api.ErrForm)
		region(t, a, "r0", 0, 0, api.ErrRange)
		region(t, a, "r0", -1, 0, api.ErrRange)
		region(t, a, "r0", math.MinInt, 0, api.ErrRange)
		region(t, a, "new", math.MinInt, 0, api.ErrRange)
		region(t, a, "r0", 1000, 0, api.ErrTwice)
		m.same(t, a)
	}
	m.region("r0", 1)
	region(t, a, "r0", 1, 0, api.OK)
	several()
	region(t, a, "new", 64, 0, api.ErrFull)
	region(t, a, "new", math.MaxInt, 0, api.ErrFull)
	for i := 1; i < 64; i++ {
		name := "r" + strconv.Itoa(i)
		m.region(name, 1)
		region(t, a, name, 1, i, api.OK)
	}
	several()
	region(t, a, "new", 1, 0, api.ErrLong)
	region(t, a, "new", math.MaxInt, 0, api.ErrLong)
	m.same(t, a)
}

// TestRegionLimits has arenas with room after 64 regions, and regions as large as the arena (P5.1).
func TestRegionLimits(t *testing.T) {
	a, m := pair(t, 65536)
	for i := range 64 {
		name := "r" + strconv.Itoa(i)
		base, _ := m.region(name, i+1)
		region(t, a, name, i+1, base, api.OK)
	}
	region(t, a, "one-more", 1, 0, api.ErrLong)
	region(t, a, "r63", 1, 0, api.ErrTwice)
	m.same(t, a)
	for _, cells := range []int{1, 2, 65536} {
		b := made(t, cells)
		region(t, b, "all", cells+1, 0, api.ErrFull)
		region(t, b, "all", cells, 0, api.OK)
		region(t, b, "more", 1, 0, api.ErrFull)
		if r, e := b.Find("all"); r != (api.ArRegion{Name: "all", Size: cells}) || e != api.OK {
			t.Errorf("Find: %v, %d", r, e)
		}
	}
}

// TestRegionsLie checks that regions follow each other from 0 on, and stay in the arena (P5.8).
func TestRegionsLie(t *testing.T) {
	for cells := 1; cells <= 40; cells++ {
		a, end := made(t, cells), 0
		for i := range 60 {
			a.Region("r"+strconv.Itoa(i), 1+i*i%7)
		}
		for _, r := range a.Regions() {
			if r.Base != end || r.Size < 1 {
				t.Errorf("%d cells: the region %v does not begin at %d", cells, r, end)
			}
			end = r.Base + r.Size
		}
		if end > cells {
			t.Errorf("%d cells: regions end at %d", cells, end)
		}
	}
}

// TestRegionsFresh changes results and arguments (R3, P5.9).
func TestRegionsFresh(t *testing.T) {
	a := made(t, 4)
	bytes := []byte("abc")
	region(t, a, unsafe.String(&bytes[0], len(bytes)), 1, 0, api.OK)
	bytes[0] = 'x'
	region(t, a, "b", 3, 1, api.OK)
	want := []api.ArRegion{{Name: "abc", Base: 0, Size: 1}, {Name: "b", Base: 1, Size: 3}}
	for range 3 {
		l := a.Regions()
		if !slices.Equal(l, want) {
			t.Fatalf("Regions: %v", l)
		}
		*unsafe.StringData(l[0].Name) = 'y'
		l[1] = api.ArRegion{}
		_ = append(l[:1], api.ArRegion{Name: "c"})
		r, e := a.Find("abc")
		if r != want[0] || e != api.OK {
			t.Fatalf("Find: %v, %d", r, e)
		}
		*unsafe.StringData(r.Name) = 'z'
	}
}

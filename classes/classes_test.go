package classes_test

import (
	"math"
	"slices"
	"testing"

	"dragnet/api"
	"dragnet/classes"
)

// TestOf: the set of the bytes, in any order, and several times (P3.1).
func TestOf(t *testing.T) {
	for _, m := range someModels() {
		l := m.bytes()
		if s := classes.Of(l); s != m.set() {
			t.Errorf("Of(%q) = %x", l, s)
		}
		slices.Reverse(l)
		if s := classes.Of(append(l, l...)); s != m.set() {
			t.Errorf("Of(%q, twice) = %x", l, s)
		}
	}
	if classes.Of(nil) != (api.ClSet{}) || classes.Of([]byte{}) != (api.ClSet{}) {
		t.Error("Of of no bytes is not the empty set")
	}
	if s := classes.Of([]byte{0, 63, 64, 255}); s != (api.ClSet{1<<63 | 1, 1, 0, 1 << 63}) {
		t.Errorf("Of(0, 63, 64, 255) = %x", s)
	}
}

// TestRange: all ranges, and those that are none (P3.1).
func TestRange(t *testing.T) {
	for low := -2; low <= 258; low++ {
		for high := -2; high <= 258; high++ {
			want, e := api.ClSet{}, api.ErrRange
			if 0 <= low && low <= high && high <= 255 {
				want, e = only(func(b int) bool { return low <= b && b <= high }).set(), api.OK
			}
			if s, f := classes.Range(low, high); s != want || f != e {
				t.Fatalf("Range(%d, %d) = %x, %d", low, high, s, f)
			}
		}
	}
	for _, c := range [][2]int{{math.MinInt, math.MaxInt}, {0, math.MaxInt}, {math.MinInt, 0}, {256, 511}, {-256, -1}, {math.MaxInt, math.MinInt}} {
		if s, e := classes.Range(c[0], c[1]); s != (api.ClSet{}) || e != api.ErrRange {
			t.Errorf("Range(%d, %d) = %x, %d", c[0], c[1], s, e)
		}
	}
}

// TestRangeExamples: the row of the chapter's examples.
func TestRangeExamples(t *testing.T) {
	s, e := classes.Range(97, 99)
	if s != modelOf('a', 'b', 'c').set() || e != api.OK {
		t.Errorf("Range(97, 99) = %x, %d", s, e)
	}
	s, e = classes.Range(5, 4)
	if s != (api.ClSet{}) || e != api.ErrRange {
		t.Errorf("Range(5, 4) = %x, %d", s, e)
	}
}

// TestHasAddDrop: each byte of some sets (P3.1).
func TestHasAddDrop(t *testing.T) {
	for _, m := range someModels() {
		s := m.set()
		for b := range 256 {
			with, without := m, m
			with[b], without[b] = true, false
			if classes.Has(s, byte(b)) != m[b] {
				t.Fatalf("Has(%x, %d) = %v", s, b, !m[b])
			}
			if u := classes.Add(s, byte(b)); u != with.set() {
				t.Fatalf("Add(%x, %d) = %x", s, b, u)
			}
			if u := classes.Drop(s, byte(b)); u != without.set() {
				t.Fatalf("Drop(%x, %d) = %x", s, b, u)
			}
		}
	}
}

// TestCountList: how many bytes, and which ones, ascending (P3.2).
func TestCountList(t *testing.T) {
	for _, m := range someModels() {
		want := m.bytes()
		if l := classes.List(m.set()); !slices.Equal(l, want) {
			t.Errorf("List = %v, not %v", l, want)
		}
		if n := classes.Count(m.set()); n != len(want) {
			t.Errorf("Count of %v = %d", want, n)
		}
	}
}

// runsOf returns the runs of a model, by definition: ranges that are in it, with neither neighbor.
func runsOf(m model) [][2]byte {
	var runs [][2]byte
	for low := range 256 {
		if !m[low] || low > 0 && m[low-1] {
			continue
		}
		high := low
		for high < 255 && m[high+1] {
			high++
		}
		runs = append(runs, [2]byte{byte(low), byte(high)})
	}
	return runs
}

// TestRuns: the maximal ranges, ascending (P3.2, P3.6).
func TestRuns(t *testing.T) {
	for _, m := range someModels() {
		runs := classes.Runs(m.set())
		if !slices.Equal(runs, runsOf(m)) {
			t.Errorf("Runs of %v = %v", m.bytes(), runs)
		}
		var all api.ClSet
		for i, r := range runs {
			if i > 0 && int(r[0]) <= int(runs[i-1][1])+1 {
				t.Errorf("Runs of %v: %v touches the one before", m.bytes(), r)
			}
			s, e := classes.Range(int(r[0]), int(r[1]))
			must(t, "Range", e)
			all = classes.Union(all, s)
		}
		if all != m.set() {
			t.Errorf("the runs of %v have the bytes %x", m.bytes(), all)
		}
	}
	for _, c := range []struct {
		m    model
		want [][2]byte
	}{
		{model{}, nil},
		{only(func(int) bool { return true }), [][2]byte{{0, 255}}},
		{modelOf(0, 1, 3, 254, 255), [][2]byte{{0, 1}, {3, 3}, {254, 255}}},
		{modelOf(62, 63, 64, 65, 127, 129), [][2]byte{{62, 65}, {127, 127}, {129, 129}}},
	} {
		if runs := classes.Runs(c.m.set()); !slices.Equal(runs, c.want) {
			t.Errorf("Runs of %v = %v", c.m.bytes(), runs)
		}
	}
}

// TestFresh: arguments are not modified, and lists and runs are new (P3.6, R3).
func TestFresh(t *testing.T) {
	room := []byte{3, 1, 3, 2, 9, 9}
	s := classes.Of(room[:4])
	if !slices.Equal(room, []byte{3, 1, 3, 2, 9, 9}) {
		t.Errorf("Of changed its argument: %v", room)
	}
	clear(room)
	if s != modelOf(1, 2, 3).set() {
		t.Errorf("Of kept its argument: %x", s)
	}
	l, r := classes.List(s), classes.Runs(s)
	clear(l[:cap(l)])
	clear(r[:cap(r)])
	if l, r = classes.List(s), classes.Runs(s); !slices.Equal(l, []byte{1, 2, 3}) || !slices.Equal(r, [][2]byte{{1, 3}}) {
		t.Errorf("a second time: List = %v, Runs = %v", l, r)
	}
}

package arena_test

import (
	"slices"
	"testing"

	"dragnet/api"
	"dragnet/arena"
)

// model is an arena by definition: its cells, its regions and its trace. It never has so many steps that their limit matters.
type model struct {
	cells   []uint64
	regions []api.ArRegion
	trace   []api.TrEvent
}

// pair returns an arena of so many cells, and its model.
func pair(t *testing.T, cells int) (*arena.Arena, *model) {
	t.Helper()
	return made(t, cells), &model{cells: make([]uint64, cells)}
}

// made returns an arena of so many cells.
func made(t *testing.T, cells int) *arena.Arena {
	t.Helper()
	a, e := arena.New(cells)
	if a == nil || e != api.OK {
		t.Fatalf("New(%d): %v, %d", cells, a, e)
	}
	return a
}

// nameLike returns whether a string is a name, told by the bytes it may have.
func nameLike(s string) bool {
	const smalls, others = "abcdefghijklmnopqrstuvwxyz", "0123456789-"
	for i := range len(s) {
		if !slices.Contains([]byte(smalls), s[i]) && (i == 0 || !slices.Contains([]byte(others), s[i])) {
			return false
		}
	}
	return len(s) >= 1 && len(s) <= 16
}

// find returns the region of a name, and whether there is one.
func (m *model) find(name string) (api.ArRegion, bool) {
	for _, r := range m.regions {
		if r.Name == name {
			return r, true
		}
	}
	return api.ArRegion{}, false
}

// region adds a region.
func (m *model) region(name string, size int) (int, api.Errno) {
	base := 0
	for _, r := range m.regions {
		base += r.Size
	}
	_, twice := m.find(name)
	switch {
	case !nameLike(name):
		return 0, api.ErrForm
	case size < 1:
		return 0, api.ErrRange
	case twice:
		return 0, api.ErrTwice
	case len(m.regions) == 64:
		return 0, api.ErrLong
	case len(m.cells)-base < size:
		return 0, api.ErrFull
	}
	m.regions = append(m.regions, api.ArRegion{Name: name, Base: base, Size: size})
	return base, api.OK
}

// has tells of each cell whether it is there. It is for small n.
func (m *model) has(from, n int) api.Errno {
	if n < 0 || from < 0 || from > len(m.cells) {
		return api.ErrRange
	}
	for at := from; at < from+n; at++ {
		if at >= len(m.cells) {
			return api.ErrRange
		}
	}
	return api.OK
}

// load and store are steps, if there is such a cell.
func (m *model) load(at int) (uint64, api.Errno) {
	if at < 0 || at >= len(m.cells) {
		return 0, api.ErrRange
	}
	m.trace = append(m.trace, api.TrEvent{Kind: 1, At: int32(at)})
	return m.cells[at], api.OK
}

func (m *model) store(at int, v uint64) api.Errno {
	if at < 0 || at >= len(m.cells) {
		return api.ErrRange
	}
	m.trace = append(m.trace, api.TrEvent{Kind: 2, At: int32(at)})
	m.cells[at] = v
	return api.OK
}

// same checks that all that can be asked of an arena is as the model has it.
func (m *model) same(t *testing.T, a *arena.Arena) {
	t.Helper()
	if n := a.Steps(); n != len(m.trace) {
		t.Fatalf("Steps: %d; want %d", n, len(m.trace))
	}
	if l := a.Events(); !slices.Equal(l, m.trace) {
		t.Fatalf("Events: %v; want %v", l, m.trace)
	}
	if l := a.Regions(); !slices.Equal(l, m.regions) {
		t.Fatalf("Regions: %v; want %v", l, m.regions)
	}
	if l := a.Cells(); !slices.Equal(l, m.cells) {
		t.Fatalf("Cells: %v; want %v", l, m.cells)
	}
	for _, r := range m.regions {
		if found, e := a.Find(r.Name); found != r || e != api.OK {
			t.Fatalf("Find(%q): %v, %d; want %v", r.Name, found, e, r)
		}
	}
}

package masks_test

import (
	"slices"
	"testing"

	"dragnet/api"
	"dragnet/arena"
)

// ones is the mask that is set.
const ones = 0xffffffffffffffff

// model is an arena by definition: its cells and its trace. It never has so many steps that their limit matters.
type model struct {
	cells []uint64
	trace []api.TrEvent
}

// pair returns an arena with these values, whose trace is empty, and its model.
func pair(t *testing.T, values ...uint64) (*arena.Arena, *model) {
	t.Helper()
	a, e := arena.New(len(values))
	if e != api.OK {
		t.Fatalf("New(%d): %d", len(values), e)
	}
	for i, v := range values {
		a.Store(i, v)
	}
	a.Forget()
	return a, &model{cells: slices.Clone(values)}
}

// same compares the arena with its model: values and steps.
func (m *model) same(t *testing.T, a *arena.Arena) {
	t.Helper()
	if l := a.Cells(); !slices.Equal(l, m.cells) {
		t.Fatalf("cells %v; want %v", l, m.cells)
	}
	if l := a.Events(); !slices.Equal(l, m.trace) {
		t.Fatalf("steps %v; want %v", l, m.trace)
	}
}

// step puts steps at the end of the trace.
func (m *model) step(kind int32, at ...int) {
	for _, x := range at {
		m.trace = append(m.trace, api.TrEvent{Kind: kind, At: int32(x)})
	}
}

// bad returns the error of a mask, or of cells, that a call may not have.
func (m *model) bad(mask uint64, cells ...int) api.Errno {
	if mask != 0 && mask != ones {
		return api.ErrArg
	}
	for _, at := range cells {
		if at < 0 || at > len(m.cells)-1 {
			return api.ErrRange
		}
	}
	return api.OK
}

func (m *model) swap(mask uint64, x, y int) api.Errno {
	if e := m.bad(mask, x, y); e != api.OK {
		return e
	}
	m.step(1, x, y)
	m.step(2, x, y)
	if mask == ones {
		m.cells[x], m.cells[y] = m.cells[y], m.cells[x]
	}
	return api.OK
}

func (m *model) move(mask uint64, from, to int) api.Errno {
	if e := m.bad(mask, from, to); e != api.OK {
		return e
	}
	m.step(1, from, to)
	m.step(2, to)
	if mask == ones {
		m.cells[to] = m.cells[from]
	}
	return api.OK
}

func (m *model) clear(mask uint64, at int) api.Errno {
	if e := m.bad(mask, at); e != api.OK {
		return e
	}
	m.step(1, at)
	m.step(2, at)
	if mask == ones {
		m.cells[at] = 0
	}
	return api.OK
}

// badRows returns the error of rows that a call may not have: it looks at each cell of them.
func (m *model) badRows(mask uint64, x, y, n int) api.Errno {
	if e := m.bad(mask); e != api.OK {
		return e
	}
	if n <= 0 || n >= 65 {
		return api.ErrRange
	}
	var all []int
	for _, base := range []int{x, y} {
		for i := range n {
			all = append(all, base+i)
		}
	}
	if e := m.bad(mask, all...); e != api.OK {
		return e
	}
	for i, at := range all {
		if slices.Contains(all[:i], at) {
			return api.ErrArg
		}
	}
	return api.OK
}

func (m *model) swapRows(mask uint64, x, y, n int) api.Errno {
	if e := m.badRows(mask, x, y, n); e != api.OK {
		return e
	}
	for i := range n {
		m.swap(mask, x+i, y+i)
	}
	return api.OK
}

func (m *model) moveRows(mask uint64, from, to, n int) api.Errno {
	if e := m.badRows(mask, from, to, n); e != api.OK {
		return e
	}
	for i := range n {
		m.move(mask, from+i, to+i)
	}
	return api.OK
}

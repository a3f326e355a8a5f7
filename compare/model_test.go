package compare_test

import (
	"cmp"
	"math/rand"
	"slices"
	"testing"

	"dragnet/api"
	"dragnet/arena"
)

// ones is the mask that is set.
const ones = 0xffffffffffffffff

// told returns the mask that is set if something is so.
func told(is bool) uint64 {
	if is {
		return ones
	}
	return 0
}

// model is an arena by definition: its cells and its trace. It never has so many steps that their limit matters.
type model struct {
	cells []uint64
	trace []api.TrEvent
}

// pair returns an arena with these values, whose trace is empty, and its model.
func pair(t *testing.T, values ...uint64) (*arena.Arena, *model) {
	t.Helper()
	a, e := arena.New(len(values))
	if e != api.OK {
		t.Fatalf("New(%d): %d", len(values), e)
	}
	for i, v := range values {
		a.Store(i, v)
	}
	a.Forget()
	return a, &model{cells: slices.Clone(values)}
}

// same compares the arena with its model, values and steps, and forgets the steps of both.
func (m *model) same(t *testing.T, a *arena.Arena) {
	t.Helper()
	if l := a.Cells(); !slices.Equal(l, m.cells) {
		t.Fatalf("cells %v; want %v", l, m.cells)
	}
	if l := a.Events(); !slices.Equal(l, m.trace) {
		t.Fatalf("steps %v; want %v", l, m.trace)
	}
	a.Forget()
	m.trace = nil
}

// step puts steps at the end of the trace.
func (m *model) step(kind int32, at ...int) {
	for _, x := range at {
		m.trace = append(m.trace, api.TrEvent{Kind: kind, At: int32(x)})
	}
}

// lacks returns whether one of n cells from x on is not there.
func (m *model) lacks(x, n int) bool {
	for i := range n {
		if x+i < 0 || x+i > len(m.cells)-1 {
			return true
		}
	}
	return false
}

// row returns the values of n cells from x on.
func (m *model) row(x, n int) []uint64 {
	return slices.Clone(m.cells[x : x+n])
}

// compare makes the steps of EqualRows and LessRows, and returns -1 if the row x is less than the row y, 0 if they are equal, and 1 otherwise.
func (m *model) compare(x, y, n int) (int, api.Errno) {
	if n <= 0 || n >= 65 || m.lacks(x, n) || m.lacks(y, n) {
		return 0, api.ErrRange
	}
	for i := range n {
		m.step(1, x+i, y+i)
	}
	return slices.Compare(m.row(x, n), m.row(y, n)), api.OK
}

func (m *model) exchange(x, y, n int) api.Errno {
	if n <= 0 || n >= 65 || m.lacks(x, n) || m.lacks(y, n) {
		return api.ErrRange
	}
	for i := range n {
		for j := range n {
			if x+i == y+j {
				return api.ErrArg
			}
		}
	}
	m.step(1, x, y)
	for i := range n {
		m.step(1, x+i, y+i)
		m.step(2, x+i, y+i)
	}
	first, second := m.row(x, n), m.row(y, n)
	if second[0] < first[0] {
		copy(m.cells[x:], second)
		copy(m.cells[y:], first)
	}
	return api.OK
}

// sort makes the steps of Sort pair by pair, but puts the rows in order by the library.
func (m *model) sort(base, many, n int) api.Errno {
	if many < 1 || many > 16 || n < 1 || n > 64 || many*n > 64 || m.lacks(base, many*n) {
		return api.ErrRange
	}
	sorted := make([][]uint64, many)
	for i := range many {
		sorted[i] = m.row(base+i*n, n)
	}
	slices.SortStableFunc(sorted, func(a, b []uint64) int { return cmp.Compare(a[0], b[0]) })
	for last := many - 1; last > 0; last-- {
		for x := base; x < base+last*n; x += n {
			m.exchange(x, x+n, n)
		}
	}
	copy(m.cells[base:], slices.Concat(sorted...))
	return api.OK
}

// random returns so many values, of which many are equal, and some are beside each other.
func random(r *rand.Rand, n int) []uint64 {
	l := make([]uint64, n)
	for i := range l {
		switch r.Intn(4) {
		case 0:
			l[i] = uint64(r.Intn(3))
		case 1:
			l[i] = -uint64(r.Intn(3))
		case 2:
			l[i] = 1<<63 + uint64(r.Intn(3)) - 1
		case 3:
			l[i] = r.Uint64() >> r.Intn(64)
		}
	}
	return l
}

// steps is a trace that is written as kinds and addresses in turn.
func steps(kindsAndCells ...int32) []api.TrEvent {
	var l []api.TrEvent
	for i := 0; i < len(kindsAndCells); i += 2 {
		l = append(l, api.TrEvent{Kind: kindsAndCells[i], At: kindsAndCells[i+1]})
	}
	return l
}

// fill makes steps until only so many may be made.
func fill(t *testing.T, a *arena.Arena, left int) {
	t.Helper()
	a.Forget()
	for range api.MaxSteps - left {
		a.Load(0)
	}
	if a.Room(left) != api.OK || a.Room(left+1) != api.ErrLong {
		t.Fatalf("%d steps; %d should be left", a.Steps(), left)
	}
}

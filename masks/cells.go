package masks

import (
	"dragnet/api"
	"dragnet/arena"
)

// How many steps it takes to exchange, move and clear cells.
const (
	swapSteps  = 4
	moveSteps  = 3
	clearSteps = 2
)

// Swap exchanges the values of two cells if m is set.
func Swap(a *arena.Arena, m uint64, x, y int) api.Errno {
	if e := checkCells(a, m, swapSteps, x, y); e != api.OK {
		return e
	}
	swap(a, m, x, y)
	return api.OK
}

// Move gives the cell to the value of the cell from if m is set.
func Move(a *arena.Arena, m uint64, from, to int) api.Errno {
	if e := checkCells(a, m, moveSteps, from, to); e != api.OK {
		return e
	}
	move(a, m, from, to)
	return api.OK
}

// Clear gives a cell the value 0 if m is set.
func Clear(a *arena.Arena, m uint64, at int) api.Errno {
	if e := checkCells(a, m, clearSteps, at); e != api.OK {
		return e
	}
	value, _ := a.Load(at)
	a.Store(at, Select(m, 0, value))
	return api.OK
}

// checkCells returns why so many steps may not be made with these cells, or OK. All is asked before the first step, so that no error leaves half of them done.
func checkCells(a *arena.Arena, m uint64, steps int, cells ...int) api.Errno {
	if !Is(m) {
		return api.ErrArg
	}
	for _, at := range cells {
		if e := a.Has(at, 1); e != api.OK {
			return e
		}
	}
	return a.Room(steps)
}

// swap does the steps of Swap, which were checked, so that none of them fails.
func swap(a *arena.Arena, m uint64, x, y int) {
	first, _ := a.Load(x)
	second, _ := a.Load(y)
	a.Store(x, Select(m, second, first))
	a.Store(y, Select(m, first, second))
}

// move does the steps of Move, which were checked, so that none of them fails.
func move(a *arena.Arena, m uint64, from, to int) {
	moved, _ := a.Load(from)
	kept, _ := a.Load(to)
	a.Store(to, Select(m, moved, kept))
}

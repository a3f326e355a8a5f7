package masks

import (
	"dragnet/api"
	"dragnet/arena"
)

// SwapRows exchanges the values of two rows of n cells if m is set.
func SwapRows(a *arena.Arena, m uint64, x, y, n int) api.Errno {
	if e := checkRows(a, m, x, y, n, swapSteps); e != api.OK {
		return e
	}
	eachOf(n, func(i int) { swap(a, m, x+i, y+i) })
	return api.OK
}

// MoveRows gives the row to the values of the row from if m is set; both have n cells.
func MoveRows(a *arena.Arena, m uint64, from, to, n int) api.Errno {
	if e := checkRows(a, m, from, to, n, moveSteps); e != api.OK {
		return e
	}
	eachOf(n, func(i int) { move(a, m, from+i, to+i) })
	return api.OK
}

// checkRows returns why so many steps may not be made with each pair of cells of two rows, or OK.
func checkRows(a *arena.Arena, m uint64, x, y, n, steps int) api.Errno {
	if !Is(m) {
		return api.ErrArg
	}
	if n < 1 || n > api.MaxMaskRow {
		return api.ErrRange
	}
	for _, base := range []int{x, y} {
		if e := a.Has(base, n); e != api.OK {
			return e
		}
	}
	if overlap(x, y, n) {
		return api.ErrArg
	}
	return a.Room(steps * n)
}

// overlap returns whether two rows of n cells have a cell in common.
func overlap(x, y, n int) bool {
	return x < y+n && y < x+n
}

// eachOf does something with each number from 0 on, so many.
func eachOf(n int, do func(i int)) {
	for i := range n {
		do(i)
	}
}

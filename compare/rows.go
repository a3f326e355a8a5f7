package compare

import (
	"iter"

	"dragnet/api"
	"dragnet/arena"
	"dragnet/masks"
)

// EqualRows returns the mask that is set if two rows of n cells are equal.
func EqualRows(a *arena.Arena, x, y, n int) (m uint64, e api.Errno) {
	m, _, e = compareRows(a, x, y, n)
	return m, e
}

// LessRows returns the mask that is set if the row x is less than the row y; both have n cells.
func LessRows(a *arena.Arena, x, y, n int) (m uint64, e api.Errno) {
	_, m, e = compareRows(a, x, y, n)
	return m, e
}

// Exchange puts two rows of n cells in the order of their keys.
func Exchange(a *arena.Arena, x, y, n int) api.Errno {
	if e := checkRows(a, x, y, n); e != api.OK {
		return e
	}
	if overlap(x, y, n) {
		return api.ErrArg
	}
	if e := a.Room(exchangeSteps(n)); e != api.OK {
		return e
	}
	exchange(a, x, y, n)
	return api.OK
}

// compareRows loads two rows of n cells, and returns the masks that are set if they are equal, and if the row x is less.
func compareRows(a *arena.Arena, x, y, n int) (same, less uint64, e api.Errno) {
	if e := checkRows(a, x, y, n); e != api.OK {
		return 0, 0, e
	}
	if e := a.Room(2 * n); e != api.OK {
		return 0, 0, e
	}
	same = masks.Not(0)
	// The first cells that differ decide, but all of them are loaded: where they are must not show.
	for first, second := range loaded(a, x, y, n) {
		less |= same & Less(first, second)
		same &= Equal(first, second)
	}
	return same, less, api.OK
}

// loaded yields the values of the cells of two rows, which were checked, so that no load fails.
func loaded(a *arena.Arena, x, y, n int) iter.Seq2[uint64, uint64] {
	return func(yield func(first, second uint64) bool) {
		for i := range n {
			first, _ := a.Load(x + i)
			second, _ := a.Load(y + i)
			if !yield(first, second) {
				return
			}
		}
	}
}

// checkRows returns why there are no two rows of n cells, or OK.
func checkRows(a *arena.Arena, x, y, n int) api.Errno {
	if n < 1 || n > api.MaxMaskRow {
		return api.ErrRange
	}
	if e := a.Has(x, n); e != api.OK {
		return e
	}
	return a.Has(y, n)
}

// overlap returns whether two rows of n cells have a cell in common.
func overlap(x, y, n int) bool {
	return x < y+n && y < x+n
}

// exchangeSteps returns how many steps it takes to put two rows of n cells in order.
func exchangeSteps(n int) int {
	return 2 + 4*n
}

// exchange does the steps of Exchange, which were checked, so that none of them fails.
func exchange(a *arena.Arena, x, y, n int) {
	first, _ := a.Load(x)
	second, _ := a.Load(y)
	masks.SwapRows(a, Less(second, first), x, y, n)
}

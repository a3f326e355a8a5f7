package compare

import (
	"iter"

	"dragnet/api"
	"dragnet/arena"
)

// maxTableCells is how many cells a table that is sorted has at most.
const maxTableCells = 64

// Sort puts the rows of a table, which has many of n cells, in the order of their keys.
func Sort(a *arena.Arena, base, many, n int) api.Errno {
	if !isTable(many, n) {
		return api.ErrRange
	}
	if e := a.Has(base, many*n); e != api.OK {
		return e
	}
	if e := a.Room(many * (many - 1) / 2 * exchangeSteps(n)); e != api.OK {
		return e
	}
	for first, second := range network(many) {
		exchange(a, base+first*n, base+second*n, n)
	}
	return api.OK
}

// isTable returns whether a table may have many rows of n cells.
func isTable(many, n int) bool {
	// The quotient cannot overflow, as the product might.
	return many >= 1 && many <= api.MaxSorted && n >= 1 && n <= maxTableCells/many
}

// network yields the pairs of rows that are put in order: only neighbours, so that rows with equal keys never pass each other.
func network(many int) iter.Seq2[int, int] {
	return func(yield func(first, second int) bool) {
		for k := range many - 1 {
			for i := range many - 1 - k {
				if !yield(i, i+1) {
					return
				}
			}
		}
	}
}

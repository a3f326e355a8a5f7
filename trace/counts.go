package trace

import (
	"cmp"
	"slices"
	"sort"

	"dragnet/api"
)

// counts returns how often each step occurs in a trace.
func counts(l []api.TrEvent) map[api.TrEvent]int {
	m := map[api.TrEvent]int{}
	for _, s := range l {
		m[s]++
	}
	return m
}

// Count returns how many steps have this kind.
func Count(l []api.TrEvent, kind int) (int, api.Errno) {
	if !isKind(kind) {
		return 0, api.ErrArg
	}
	sum := 0
	for s, n := range counts(l) {
		if int(s.Kind) == kind {
			sum += n
		}
	}
	return sum, api.OK
}

// Parts returns, for each region, how many steps have an address in it, and at last how many have one in none.
func Parts(l []api.TrEvent, r []api.ArRegion) ([]int, api.Errno) {
	for _, x := range r {
		// The sum of base and size might not fit in an int.
		if x.Base < 0 || x.Size < 1 || x.Base > api.MaxCells-x.Size {
			return nil, api.ErrRange
		}
	}
	places := inOrder(r)
	for i := 1; i < len(places); i++ {
		if places[i-1].end > places[i].base {
			return nil, api.ErrForm
		}
	}
	parts := make([]int, len(r)+1)
	for s, n := range counts(l) {
		parts[find(places, int(s.At))] += n
	}
	return parts, api.OK
}

// place is where a region lies, and its index in the list.
type place struct{ base, end, index int }

// inOrder returns where the regions lie, from the first address on.
func inOrder(r []api.ArRegion) []place {
	places := make([]place, len(r))
	for i, x := range r {
		places[i] = place{x.Base, x.Base + x.Size, i}
	}
	slices.SortFunc(places, func(a, b place) int { return cmp.Compare(a.base, b.base) })
	return places
}

// find returns the index of the region in which an address lies, or their number.
func find(places []place, at int) int {
	// The first region that ends after the address is the only one that may have it.
	i := sort.Search(len(places), func(i int) bool { return places[i].end > at })
	if i == len(places) || at < places[i].base {
		return len(places)
	}
	return places[i].index
}

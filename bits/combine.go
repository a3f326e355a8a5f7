package bits

import "dragnet/api"

// And returns the row of the bits that both rows have.
func And(a, b []uint64) ([]uint64, api.Errno) {
	return combine(a, b, func(x, y uint64) uint64 { return x & y })
}

// Or returns the row of the bits that one of the rows has, or both.
func Or(a, b []uint64) ([]uint64, api.Errno) {
	return combine(a, b, func(x, y uint64) uint64 { return x | y })
}

// Not returns the row of the bits that w does not have.
func Not(w []uint64) ([]uint64, api.Errno) {
	if e := Check(w); e != api.OK {
		return nil, e
	}
	u := make([]uint64, len(w))
	for i := range len(w) {
		u[i] = ^w[i]
	}
	return u, api.OK
}

// combine returns the row of what each makes of two words in the same place.
func combine(a, b []uint64, each func(x, y uint64) uint64) ([]uint64, api.Errno) {
	if e := Check(a); e != api.OK {
		return nil, e
	}
	if e := Check(b); e != api.OK {
		return nil, e
	}
	if len(a) != len(b) {
		return nil, api.ErrForm
	}
	u := make([]uint64, len(a))
	for i := range len(a) {
		u[i] = each(a[i], b[i])
	}
	return u, api.OK
}

package bits

import "dragnet/api"

// Shift moves each bit of a row to the next number; in becomes the bit 0, and out was the last bit.
func Shift(w []uint64, in bool) (u []uint64, out bool, e api.Errno) {
	if e = Check(w); e != api.OK {
		return nil, false, e
	}
	u = make([]uint64, len(w))
	carry := lowBit(in)
	for i := range len(w) {
		u[i] = w[i]<<1 | carry
		carry = w[i] >> (wordBits - 1)
	}
	return u, carry == 1, api.OK
}

// Back moves each bit of a row to the number before it; in becomes the last bit, and out was the bit 0.
func Back(w []uint64, in bool) (u []uint64, out bool, e api.Errno) {
	if e = Check(w); e != api.OK {
		return nil, false, e
	}
	u = make([]uint64, len(w))
	carry := lowBit(in)
	for n := range len(w) {
		// From the last word on, as its lowest bit goes to the word before it.
		i := len(w) - 1 - n
		u[i] = w[i]>>1 | carry<<(wordBits-1)
		carry = w[i] & 1
	}
	return u, carry == 1, api.OK
}

// lowBit returns the word whose lowest bit is v, without others.
func lowBit(v bool) uint64 {
	if v {
		return 1
	}
	return 0
}

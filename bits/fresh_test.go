package bits_test

import (
	"slices"
	"testing"

	"dragnet/api"
	"dragnet/bits"
)

// makers are functions that make a row of a row.
func makers(n int) map[string]func(w []uint64) []uint64 {
	plain := func(u []uint64, _ api.Errno) []uint64 { return u }
	moved := func(u []uint64, _ bool, _ api.Errno) []uint64 { return u }
	return map[string]func(w []uint64) []uint64{
		"Set to 0":      func(w []uint64) []uint64 { return plain(bits.Set(w, 0, false)) },
		"Set to 1":      func(w []uint64) []uint64 { return plain(bits.Set(w, 64*n-1, true)) },
		"Shift of 0":    func(w []uint64) []uint64 { return moved(bits.Shift(w, false)) },
		"Shift of 1":    func(w []uint64) []uint64 { return moved(bits.Shift(w, true)) },
		"Back of 0":     func(w []uint64) []uint64 { return moved(bits.Back(w, false)) },
		"Back of 1":     func(w []uint64) []uint64 { return moved(bits.Back(w, true)) },
		"And of itself": func(w []uint64) []uint64 { return plain(bits.And(w, w)) },
		"Or of itself":  func(w []uint64) []uint64 { return plain(bits.Or(w, w)) },
		"And, first":    func(w []uint64) []uint64 { return plain(bits.And(w, full(n))) },
		"And, second":   func(w []uint64) []uint64 { return plain(bits.And(full(n), w)) },
		"Or, first":     func(w []uint64) []uint64 { return plain(bits.Or(w, zeros(n))) },
		"Or, second":    func(w []uint64) []uint64 { return plain(bits.Or(zeros(n), w)) },
		"Not":           func(w []uint64) []uint64 { return plain(bits.Not(w)) },
	}
}

// TestRowsFresh: arguments are not modified, and rows that come out share no memory with them or with each other (P2.8, R3).
func TestRowsFresh(t *testing.T) {
	for _, w := range someRows() {
		for name, do := range makers(len(w)) {
			// Room behind the row: it must not be written to, either.
			room := append(slices.Clone(w), 7, 7, 7)
			arg := room[:len(w)]
			first, second := do(arg), do(arg)
			want := slices.Clone(first)
			clear(second[:cap(second)])
			if !slices.Equal(first, want) {
				t.Fatalf("%s of %x: two results share memory", name, w)
			}
			clear(first[:cap(first)])
			if !slices.Equal(arg, w) || !slices.Equal(room[len(w):], []uint64{7, 7, 7}) {
				t.Fatalf("%s of %x: now %x", name, w, room)
			}
		}
	}
}

// TestReadersKeep: functions that only read a row leave it as it is.
func TestReadersKeep(t *testing.T) {
	for _, w := range someRows() {
		arg := slices.Clone(w)
		bits.Check(arg)
		bits.Get(arg, 0)
		bits.Count(arg)
		bits.Ones(arg)
		bits.Print(arg)
		if !slices.Equal(arg, w) {
			t.Fatalf("%x: now %x", w, arg)
		}
	}
}

// TestListsFresh: Of keeps no numbers, and what Ones, Of and Parse return is new.
func TestListsFresh(t *testing.T) {
	ones := []int{70, 3, 70, 0}
	w, _ := bits.Of(2, ones)
	if !slices.Equal(ones, []int{70, 3, 70, 0}) {
		t.Errorf("Of changed its argument: %v", ones)
	}
	clear(w)
	if again, e := bits.Of(2, ones); !slices.Equal(again, rowOf(2, 0, 3, 70)) || e != api.OK {
		t.Errorf("Of a second time: %x, %d", again, e)
	}
	row := rowOf(2, 0, 3, 70)
	l, _ := bits.Ones(row)
	clear(l)
	if again, e := bits.Ones(row); !slices.Equal(again, []int{0, 3, 70}) || e != api.OK {
		t.Errorf("Ones a second time: %v, %d", again, e)
	}
	text, _ := bits.Print(row)
	parsed, _ := bits.Parse(text)
	clear(parsed)
	if again, e := bits.Parse(text); !slices.Equal(again, row) || e != api.OK {
		t.Errorf("Parse a second time: %x, %d", again, e)
	}
}

// TestErrorsChangeNothing: with an error the arguments are as they were.
func TestErrorsChangeNothing(t *testing.T) {
	for _, x := range badRows {
		arg := slices.Clone(x.w)
		bits.Set(arg, 0, true)
		bits.Set(arg, 0, false)
		bits.Shift(arg, true)
		bits.Back(arg, true)
		bits.And(arg, arg)
		bits.Or(arg, arg)
		bits.Not(arg)
		if !slices.Equal(arg, x.w) {
			t.Errorf("%d words were changed", len(arg))
		}
	}
	arg := full(2)
	bits.Set(arg, 128, false)
	bits.And(arg, zeros(1))
	bits.Or(arg, zeros(3))
	if !slices.Equal(arg, full(2)) {
		t.Errorf("a row was changed: %x", arg)
	}
}

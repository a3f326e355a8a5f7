package bits_test

import (
	"math"
	"math/rand"
	"slices"
	"testing"

	"dragnet/api"
	"dragnet/bits"
)

// zeros returns n words, which need not be a row.
func zeros(n int) []uint64 { return make([]uint64, n) }

// full returns n words whose bits are all 1, which need not be a row.
func full(n int) []uint64 { return slices.Repeat([]uint64{math.MaxUint64}, n) }

// anyRow returns a row of n words: in some most bits are 0, in others most are 1.
func anyRow(r *rand.Rand, n int) []uint64 {
	w := make([]uint64, n)
	kind := r.Intn(4)
	for i := range w {
		switch w[i] = r.Uint64(); kind {
		case 0:
			w[i] &= r.Uint64() & r.Uint64() & r.Uint64()
		case 1:
			w[i] |= r.Uint64() | r.Uint64() | r.Uint64()
		}
	}
	return w
}

// someRows returns rows of every length: all 0, all 1, with a single bit, and of random bits.
func someRows() [][]uint64 {
	r := rand.New(rand.NewSource(1))
	var l [][]uint64
	for n := 1; n <= 8; n++ {
		l = append(l, zeros(n), full(n))
		for _, i := range []int{0, 1, 63, 64, 64*n - 64, 64*n - 1} {
			if i < 64*n {
				l = append(l, rowOf(n, i))
			}
		}
		for range 20 {
			l = append(l, anyRow(r, n))
		}
	}
	return l
}

// plainBits writes a row as its bits, found without the package.
func plainBits(w []uint64) []bool {
	var l []bool
	for _, word := range w {
		for range 64 {
			l = append(l, word%2 == 1)
			word /= 2
		}
	}
	return l
}

// rowOf is the row in which these bits are 1, made without the package.
func rowOf(n int, ones ...int) []uint64 {
	w := make([]uint64, n)
	for _, i := range ones {
		w[i/64] |= uint64(1) << (i % 64)
	}
	return w
}

// badRows are no rows: each has an error of Check.
var badRows = []struct {
	w []uint64
	e api.Errno
}{
	{nil, api.ErrForm},
	{[]uint64{}, api.ErrForm},
	{zeros(8)[:0], api.ErrForm},
	{zeros(9), api.ErrLong},
	{full(9), api.ErrLong},
	{full(10), api.ErrLong},
	{full(1000), api.ErrLong},
}

func TestCheck(t *testing.T) {
	for _, x := range badRows {
		if e := bits.Check(x.w); e != x.e {
			t.Errorf("Check of %d words: %d", len(x.w), e)
		}
	}
	for n := 1; n <= 8; n++ {
		if e := bits.Check(zeros(n)); e != api.OK {
			t.Errorf("Check of %d words: %d", n, e)
		}
		if e := bits.Check(full(9)[:n]); e != api.OK {
			t.Errorf("Check of the first %d of 9 words: %d", n, e)
		}
	}
}

// TestGet looks at every bit of some rows.
func TestGet(t *testing.T) {
	for _, w := range someRows() {
		for i, want := range plainBits(w) {
			if v, e := bits.Get(w, i); v != want || e != api.OK {
				t.Fatalf("Get(%x, %d): %v, %d", w, i, v, e)
			}
		}
	}
}

// TestSet gives every bit of some rows both values.
func TestSet(t *testing.T) {
	for _, w := range someRows() {
		for i := range 64 * len(w) {
			for _, v := range []bool{false, true} {
				want := plainBits(w)
				want[i] = v
				if u, e := bits.Set(w, i, v); !slices.Equal(plainBits(u), want) || e != api.OK {
					t.Fatalf("Set(%x, %d, %v): %x, %d", w, i, v, u, e)
				}
			}
		}
	}
}

// farNumbers are numbers of no bit of a row of n words.
func farNumbers(n int) []int {
	return []int{-1, -2, -63, -64, -65, -64 * n, 64 * n, 64*n + 1, 64*n + 63, 64*n + 64, 512, 1 << 32, math.MaxInt, math.MinInt, math.MinInt + 64}
}

func TestBitRange(t *testing.T) {
	for n := 1; n <= 8; n++ {
		for _, i := range farNumbers(n) {
			if v, e := bits.Get(full(n), i); v || e != api.ErrRange {
				t.Errorf("Get of %d words, %d: %v, %d", n, i, v, e)
			}
			for _, v := range []bool{false, true} {
				if u, e := bits.Set(full(n), i, v); len(u) != 0 || e != api.ErrRange {
					t.Errorf("Set of %d words, %d, %v: %x, %d", n, i, v, u, e)
				}
			}
		}
	}
}

// TestBadRows: the error of Check comes first, and nothing else comes with it.
func TestBadRows(t *testing.T) {
	for _, x := range badRows {
		n := len(x.w)
		for _, i := range []int{0, 1, 63, 575, -1, 64 * n, 1 << 40} {
			if v, e := bits.Get(x.w, i); v || e != x.e {
				t.Errorf("Get of %d words, %d: %v, %d", n, i, v, e)
			}
			if u, e := bits.Set(x.w, i, true); len(u) != 0 || e != x.e {
				t.Errorf("Set of %d words, %d: %x, %d", n, i, u, e)
			}
		}
		if many, e := bits.Count(x.w); many != 0 || e != x.e {
			t.Errorf("Count of %d words: %d, %d", n, many, e)
		}
		if l, e := bits.Ones(x.w); len(l) != 0 || e != x.e {
			t.Errorf("Ones of %d words: %v, %d", n, l, e)
		}
		for _, in := range []bool{false, true} {
			if u, out, e := bits.Shift(x.w, in); len(u) != 0 || out || e != x.e {
				t.Errorf("Shift of %d words: %x, %v, %d", n, u, out, e)
			}
			if u, out, e := bits.Back(x.w, in); len(u) != 0 || out || e != x.e {
				t.Errorf("Back of %d words: %x, %v, %d", n, u, out, e)
			}
		}
		if u, e := bits.Not(x.w); len(u) != 0 || e != x.e {
			t.Errorf("Not of %d words: %x, %d", n, u, e)
		}
		if s, e := bits.Print(x.w); s != "" || e != x.e {
			t.Errorf("Print of %d words: %q, %d", n, s, e)
		}
	}
}

func TestCountAndOnes(t *testing.T) {
	for _, w := range someRows() {
		var want []int
		for i, v := range plainBits(w) {
			if v {
				want = append(want, i)
			}
		}
		if n, e := bits.Count(w); n != len(want) || e != api.OK {
			t.Errorf("Count(%x): %d, %d", w, n, e)
		}
		if l, e := bits.Ones(w); !slices.Equal(l, want) || e != api.OK {
			t.Errorf("Ones(%x): %v, %d", w, l, e)
		}
	}
	if n, e := bits.Count(full(8)); n != 512 || e != api.OK {
		t.Errorf("Count of 8 full words: %d, %d", n, e)
	}
}

func TestOf(t *testing.T) {
	for n := 1; n <= 8; n++ {
		last := 64*n - 1
		for _, ones := range [][]int{
			nil, {}, {0}, {1}, {63}, {last}, {0, last}, {last, 0}, {0, 0}, {last, last, last}, {5, 3, 5, 3, 4}, {63, 62, 1, 0, last - 1},
		} {
			if w, e := bits.Of(n, ones); !slices.Equal(w, rowOf(n, ones...)) || e != api.OK {
				t.Errorf("Of(%d, %v): %x, %d", n, ones, w, e)
			}
		}
		if w, e := bits.Of(n, slices.Repeat([]int{last}, 5000)); !slices.Equal(w, rowOf(n, last)) || e != api.OK {
			t.Errorf("Of(%d) of 5000 times the last bit: %x, %d", n, w, e)
		}
	}
}

func TestOfErrors(t *testing.T) {
	for words, want := range map[int]api.Errno{
		0: api.ErrForm, -1: api.ErrForm, -8: api.ErrForm, math.MinInt: api.ErrForm,
		9: api.ErrLong, 10: api.ErrLong, 1 << 40: api.ErrLong, math.MaxInt: api.ErrLong,
	} {
		// The number of words comes first.
		for _, ones := range [][]int{nil, {0}, {-1}, {64 * 9}, {math.MaxInt}, {math.MinInt}} {
			if w, e := bits.Of(words, ones); len(w) != 0 || e != want {
				t.Errorf("Of(%d, %v): %x, %d", words, ones, w, e)
			}
		}
	}
	for n := 1; n <= 8; n++ {
		for _, i := range farNumbers(n) {
			for _, ones := range [][]int{{i}, {0, i}, {i, 0}, {0, i, 1}, {i, i}} {
				if w, e := bits.Of(n, ones); len(w) != 0 || e != api.ErrRange {
					t.Errorf("Of(%d, %v): %x, %d", n, ones, w, e)
				}
			}
		}
	}
}

// TestOnesBothWays: Ones of Of is the numbers, ascending, each once; Of of Ones is the row (P2.7).
func TestOnesBothWays(t *testing.T) {
	r := rand.New(rand.NewSource(2))
	for range 2000 {
		n := 1 + r.Intn(8)
		ones := make([]int, r.Intn(100))
		for i := range ones {
			ones[i] = r.Intn(64 * n)
		}
		w, e := bits.Of(n, ones)
		if e != api.OK {
			t.Fatalf("Of(%d, %v): %d", n, ones, e)
		}
		slices.Sort(ones)
		if l, e := bits.Ones(w); !slices.Equal(l, slices.Compact(ones)) || e != api.OK {
			t.Fatalf("Ones of Of(%d, %v): %v, %d", n, ones, l, e)
		}
	}
	for _, w := range someRows() {
		ones, e := bits.Ones(w)
		if e != api.OK {
			t.Fatalf("Ones(%x): %d", w, e)
		}
		if u, e := bits.Of(len(w), ones); !slices.Equal(u, w) || e != api.OK {
			t.Fatalf("Of of Ones(%x): %x, %d", w, u, e)
		}
	}
}

// TestExample is the chapter's row of the bits 0, 63 and 64.
func TestExample(t *testing.T) {
	w, e := bits.Of(2, []int{0, 63, 64})
	if !slices.Equal(w, []uint64{1<<63 | 1, 1}) || e != api.OK {
		t.Fatalf("Of: %x, %d", w, e)
	}
	if s, e := bits.Print(w); s != "0000000000000001.8000000000000001" || e != api.OK {
		t.Errorf("Print: %s, %d", s, e)
	}
	up, out, e := bits.Shift(w, false)
	if s, _ := bits.Print(up); s != "0000000000000003.0000000000000002" || out || e != api.OK {
		t.Errorf("Shift: %s, %v, %d", s, out, e)
	}
	down, out, e := bits.Back(w, true)
	if s, _ := bits.Print(down); s != "8000000000000000.c000000000000000" || !out || e != api.OK {
		t.Errorf("Back: %s, %v, %d", s, out, e)
	}
	if v, e := bits.Get(w, 63); !v || e != api.OK {
		t.Errorf("Get 63: %v, %d", v, e)
	}
	without, e := bits.Set(w, 63, false)
	if s, _ := bits.Print(without); s != "0000000000000001.0000000000000001" || e != api.OK {
		t.Errorf("Set 63 to 0: %s, %d", s, e)
	}
	if v, e := bits.Get(w, 128); v || e != api.ErrRange {
		t.Errorf("Get 128: %v, %d", v, e)
	}
	if n, e := bits.Count(w); n != 3 || e != api.OK {
		t.Errorf("Count: %d, %d", n, e)
	}
	if l, e := bits.Ones(w); !slices.Equal(l, []int{0, 63, 64}) || e != api.OK {
		t.Errorf("Ones: %v, %d", l, e)
	}
	if u, e := bits.And(w, []uint64{1}); len(u) != 0 || e != api.ErrForm {
		t.Errorf("And of it and one word: %x, %d", u, e)
	}
}

package words_test

import (
	"math/rand"
	"slices"
	"strings"
	"testing"

	"dragnet/api"
	"dragnet/words"
)

// expressions are list expressions and their lists.
var expressions = map[string][]int{
	"-":                          nil,
	"0":                          {0},
	"7":                          {7},
	"0-1":                        {0, 1},
	"0,2":                        {0, 2},
	"1-3,5,8-9":                  {1, 2, 3, 5, 8, 9},
	"9-10,12":                    {9, 10, 12},
	"9-11,99,101":                {9, 10, 11, 99, 101},
	"999999999-1000000000":       {999999999, 1000000000},
	"0,1000000000":               {0, 1000000000},
	"98-101,199,999-1000,100000": {98, 99, 100, 101, 199, 999, 1000, 100000},
}

// every returns n numbers from first on, each step after the one before it.
func every(first, n, step int) []int {
	l := make([]int, n)
	for i := range l {
		l[i] = first + i*step
	}
	return l
}

func TestList(t *testing.T) {
	for want, l := range expressions {
		if s, e := words.List(l); s != want || e != api.OK {
			t.Errorf("List(%v): %s, %d", l, s, e)
		}
	}
	if s, e := words.List([]int{}); s != "-" || e != api.OK {
		t.Errorf("List of an empty list: %q, %d", s, e)
	}
	if s, e := words.List(every(3, 500, 1)); s != "3-502" || e != api.OK {
		t.Errorf("List of 500 numbers: %s, %d", s, e)
	}
}

func TestListErrors(t *testing.T) {
	for i, x := range []struct {
		l []int
		e api.Errno
	}{
		{every(0, 501, 1), api.ErrLong},
		{[]int{-1}, api.ErrRange},
		{[]int{1000000001}, api.ErrRange},
		{[]int{0, 1000000001}, api.ErrRange},
		{[]int{-1 << 62}, api.ErrRange},
		{[]int{2, 1}, api.ErrForm},
		{[]int{1, 1}, api.ErrForm},
		{[]int{0, 0}, api.ErrForm},
		{[]int{1, 2, 2}, api.ErrForm},
		{[]int{5, 6, 0}, api.ErrForm},
		// The number of integers comes first, then their size, then their order.
		{every(-1, 501, 0), api.ErrLong},
		{every(1, 501, 0), api.ErrLong},
		{every(1, 500, 0), api.ErrForm},
		{[]int{2, 1, -1}, api.ErrRange},
		{[]int{1, 1, 1000000001}, api.ErrRange},
	} {
		if s, e := words.List(x.l); s != "" || e != x.e {
			t.Errorf("%d: List: %q, %d; want %d", i, s, e, x.e)
		}
	}
}

func TestParseList(t *testing.T) {
	for s, want := range expressions {
		if l, e := words.ParseList(s); !slices.Equal(l, want) || e != api.OK {
			t.Errorf("ParseList(%s): %v, %d", s, l, e)
		}
	}
	for s, want := range map[string][]int{"0-499": every(0, 500, 1), "999999501-1000000000": every(999999501, 500, 1)} {
		if l, e := words.ParseList(s); !slices.Equal(l, want) || e != api.OK {
			t.Errorf("ParseList(%s): %v, %d", s, l, e)
		}
	}
}

// bigNines is a number that fits no machine word; bigNext is the next one, and bigLater the one after that.
var (
	bigNines = strings.Repeat("9", 30)
	bigNext  = "1" + strings.Repeat("0", 30)
	bigLater = "1" + strings.Repeat("0", 29) + "1"
)

func TestParseListForm(t *testing.T) {
	for _, s := range []string{
		"", " ", ",", "--", "---", "-,-", "-1", "1-", "1,", ",1", "1,,3", "-,1", "1,-", "1--3", "1-3-5", "1-3-", "+1", "1-+3",
		"01", "00", "1-03", "01-3", "1, 3", "1 ", " 1", "1\n", "x", "1x", "1-x", "1;3", "0x1", "-0", "1.0",
		"3-3", "0-0", "3-2", "10-9", "2,1", "1,1", "1,2", "0,1", "9,10", "99,100", "1-3,4", "1-3,3", "1-3,2", "1-3,4-5", "1-3,3-5", "0-5,2-3", "5,1-3", "1,3,2",
		bigNines + "," + bigNext, bigNext + "," + bigNines, bigNext + "-" + bigNines, bigNext + "-" + bigNext,
		bigNines + "-" + bigNext + "," + bigLater, "0" + bigNines, "-" + bigNines,
		// The form comes before the size and the number of the integers.
		"1000000001,", "0-1000000001,2", "0-600,601", "0-600,x", "-1000000001",
	} {
		if l, e := words.ParseList(s); len(l) != 0 || e != api.ErrForm {
			t.Errorf("ParseList(%q): %v, %d", s, l, e)
		}
	}
}

func TestParseListLimits(t *testing.T) {
	for s, want := range map[string]api.Errno{
		"0-500":                            api.ErrLong,
		"0-600":                            api.ErrLong,
		"0-498,500":                        api.OK,
		"0-498,500-501":                    api.ErrLong,
		"0-1000000000":                     api.ErrLong,
		"1-1000000000":                     api.ErrLong,
		"0-499999999,500000001-1000000000": api.ErrLong,
		"1000000000":                       api.OK,
		"1000000001":                       api.ErrRange,
		"999999999-1000000001":             api.ErrRange,
		"0,1000000001":                     api.ErrRange,
		"0-1000000001":                     api.ErrRange,
		"0-600,1000000001":                 api.ErrRange,
		"1000000002-1000000003":            api.ErrRange,
		"9223372036854775808":              api.ErrRange,
		"18446744073709551617":             api.ErrRange,
		bigNines:                           api.ErrRange,
		bigNines + "-" + bigNext:           api.ErrRange,
		bigNines + "," + bigLater:          api.ErrRange,
		"0-600," + bigNines:                api.ErrRange,
		strings.Repeat("9", 10000):         api.ErrRange,
	} {
		if l, e := words.ParseList(s); e != want || e != api.OK && len(l) != 0 {
			t.Errorf("ParseList(%.40s): %d numbers, %d; want %d", s, len(l), e, want)
		}
	}
}

// TestListsBothWays: ParseList of List is the list, List of ParseList the expression (P1.7).
func TestListsBothWays(t *testing.T) {
	// Every list of numbers below 13, where numbers of one and of two digits meet.
	written := map[string]bool{}
	for bits := range 1 << 13 {
		var l []int
		for n := range 13 {
			if bits>>n&1 == 1 {
				l = append(l, n)
			}
		}
		s, e := words.List(l)
		if e != api.OK || written[s] {
			t.Fatalf("List(%v): %s, %d", l, s, e)
		}
		written[s] = true
		if got, e := words.ParseList(s); !slices.Equal(got, l) || e != api.OK {
			t.Fatalf("ParseList(%s): %v, %d", s, got, e)
		}
	}
	textsOver("0129-, ", 6, func(s string) {
		l, e := words.ParseList(s)
		if e == api.ErrForm && (len(l) != 0 || written[s]) || e == api.ErrRange {
			t.Fatalf("ParseList(%q): %v, %d", s, l, e)
		}
		if e == api.OK {
			if got, e := words.List(l); got != s || e != api.OK {
				t.Fatalf("List of ParseList(%q): %q, %d", s, got, e)
			}
		}
	})
}

func TestLongListsBothWays(t *testing.T) {
	r := rand.New(rand.NewSource(5))
	for range 500 {
		var l []int
		for n := r.Intn(20); len(l) < 500; n += 1 + r.Intn(2)*r.Intn(1<<r.Intn(22)) {
			l = append(l, n)
		}
		s, e := words.List(l)
		if e != api.OK {
			t.Fatalf("List(%v): %d", l, e)
		}
		if got, e := words.ParseList(s); !slices.Equal(got, l) || e != api.OK {
			t.Fatalf("ParseList(%s): %v, %d", s, got, e)
		}
	}
}

// TestListFresh: List leaves its argument alone, and results of ParseList are new (P1.8, R3).
func TestListFresh(t *testing.T) {
	l := []int{1, 2, 3, 9}
	if words.List(l[:2]); !slices.Equal(l, []int{1, 2, 3, 9}) {
		t.Errorf("List changed its argument: %v", l)
	}
	first, _ := words.ParseList("1-3")
	clear(first)
	if again, _ := words.ParseList("1-3"); !slices.Equal(again, []int{1, 2, 3}) {
		t.Errorf("ParseList a second time: %v", again)
	}
}

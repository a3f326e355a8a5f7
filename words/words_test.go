package words_test

import (
	"math"
	"math/rand"
	"strconv"
	"strings"
	"testing"

	"dragnet/api"
	"dragnet/words"
)

// textsOver calls look for every string of at most longest bytes of the alphabet.
func textsOver(alphabet string, longest int, look func(s string)) {
	texts := []string{""}
	for length := 0; ; length++ {
		for _, s := range texts {
			look(s)
		}
		if length == longest {
			return
		}
		var longer []string
		for _, s := range texts {
			for i := range len(alphabet) {
				longer = append(longer, s+alphabet[i:i+1])
			}
		}
		texts = longer
	}
}

// anyText returns a string of bytes of all kinds.
func anyText(r *rand.Rand, longest int) string {
	b := make([]byte, r.Intn(longest+1))
	for i := range b {
		b[i] = byte(r.Intn(256))
	}
	return string(b)
}

func TestName(t *testing.T) {
	for _, s := range []string{"a", "z", "web-1", "a-", "a--", "z9", "a0123456789-bcd", strings.Repeat("z", 16)} {
		if !words.Name(s) {
			t.Errorf("Name(%q) is false", s)
		}
	}
	for _, s := range []string{"", "-", "1", "Web", "wEb", "-a", "0a", "a b", " a", "a ", "a_b", "a.b", "a\n", "a\x00", "\xe9", "\xc3\xa9", "a\xff", strings.Repeat("z", 17), strings.Repeat("a", 100000)} {
		if words.Name(s) {
			t.Errorf("Name(%q) is true", s)
		}
	}
}

// TestNameBytes looks at every byte as the first one of a name, and as a later one.
func TestNameBytes(t *testing.T) {
	const first = "abcdefghijklmnopqrstuvwxyz"
	const later = first + "0123456789-"
	for b := range 256 {
		s := string([]byte{byte(b)})
		if words.Name(s) != strings.Contains(first, s) {
			t.Errorf("Name(%q)", s)
		}
		if words.Name("a"+s) != strings.Contains(later, s) || words.Name("a"+s+"a") != strings.Contains(later, s) {
			t.Errorf("Name with the byte %q after the first one", s)
		}
	}
}

func TestInt(t *testing.T) {
	for _, x := range []struct {
		s         string
		low, high int64
		n         int64
		e         api.Errno
	}{
		{"0", 0, 10, 0, api.OK},
		{"0", 0, 0, 0, api.OK},
		{"7", 0, 10, 7, api.OK},
		{"10", 0, 10, 10, api.OK},
		{"11", 0, 10, 0, api.ErrRange},
		{"12", 0, 10, 0, api.ErrRange},
		{"-1", 0, 10, 0, api.ErrRange},
		{"0", 1, 10, 0, api.ErrRange},
		{"-5", -5, -3, -5, api.OK},
		{"-3", -5, -3, -3, api.OK},
		{"-6", -5, -3, 0, api.ErrRange},
		{"-2", -5, -3, 0, api.ErrRange},
		{"5", 6, 4, 0, api.ErrRange},
		{"100", -1000, 1000, 100, api.OK},
		{"9223372036854775807", math.MinInt64, math.MaxInt64, math.MaxInt64, api.OK},
		{"9223372036854775808", math.MinInt64, math.MaxInt64, 0, api.ErrRange},
		{"-9223372036854775808", math.MinInt64, math.MaxInt64, math.MinInt64, api.OK},
		{"-9223372036854775809", math.MinInt64, math.MaxInt64, 0, api.ErrRange},
		{"18446744073709551616", math.MinInt64, math.MaxInt64, 0, api.ErrRange},
		{"18446744073709551617", 0, 10, 0, api.ErrRange},
		{"-18446744073709551615", 0, 10, 0, api.ErrRange},
		{strings.Repeat("9", 5000), math.MinInt64, math.MaxInt64, 0, api.ErrRange},
		{"-" + strings.Repeat("9", 5000), math.MinInt64, math.MaxInt64, 0, api.ErrRange},
	} {
		if n, e := words.Int(x.s, x.low, x.high); n != x.n || e != x.e {
			t.Errorf("Int(%.30q, %d, %d): %d, %d; want %d, %d", x.s, x.low, x.high, n, e, x.n, x.e)
		}
	}
}

// TestIntForm looks at strings that are no decimal form; with a range that has no integer, ErrForm still comes first.
func TestIntForm(t *testing.T) {
	for _, s := range []string{"", "-", "+", "007", "00", "-0", "-00", "-01", "+1", "+0", "--5", "1-", "1x", "x", "0x1", "1e3", "1_000", "1.0", " 1", "1 ", "1\n", "\xd9\xa1", strings.Repeat("0", 40), strings.Repeat("9", 40) + "x"} {
		if n, e := words.Int(s, math.MinInt64, math.MaxInt64); n != 0 || e != api.ErrForm {
			t.Errorf("Int(%q): %d, %d", s, n, e)
		}
		if n, e := words.Int(s, 1, 0); n != 0 || e != api.ErrForm {
			t.Errorf("Int(%q) in no range: %d, %d", s, n, e)
		}
	}
}

func TestDigits(t *testing.T) {
	for n, want := range map[int64]string{0: "0", 1: "1", -1: "-1", 9: "9", 10: "10", -10: "-10", 99: "99", 100: "100", 1000000000: "1000000000", math.MaxInt64: "9223372036854775807", math.MinInt64: "-9223372036854775808"} {
		if got := words.Digits(n); got != want {
			t.Errorf("Digits(%d): %s", n, got)
		}
	}
}

// TestIntOfDigits: Int of Digits is the number, and what Int reads is written by Digits (P1.7).
func TestIntOfDigits(t *testing.T) {
	r := rand.New(rand.NewSource(1))
	for i := range int64(20000) {
		n := i - 10000
		if i%2 == 0 {
			n = int64(r.Uint64()) >> r.Intn(64)
		}
		if got, e := words.Int(words.Digits(n), math.MinInt64, math.MaxInt64); got != n || e != api.OK {
			t.Fatalf("Int of Digits(%d): %d, %d", n, got, e)
		}
	}
	textsOver("-+0159 x", 5, func(s string) {
		n, e := words.Int(s, math.MinInt64, math.MaxInt64)
		plain, err := strconv.ParseInt(s, 10, 64)
		decimal := err == nil && strconv.FormatInt(plain, 10) == s
		if decimal && (n != plain || e != api.OK || words.Digits(n) != s) || !decimal && (n != 0 || e != api.ErrForm) {
			t.Fatalf("Int(%q): %d, %d", s, n, e)
		}
	})
}

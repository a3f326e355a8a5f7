package words

import (
	"strings"

	"dragnet/api"
)

// emptyList is the expression of the list without numbers.
const emptyList = "-"

// span is a run of consecutive integers of any size, as the decimal forms of its first and its last one.
type span struct{ first, last string }

// List returns the list expression of some numbers.
func List(l []int) (string, api.Errno) {
	if len(l) > api.MaxListed {
		return "", api.ErrLong
	}
	for _, n := range l {
		if n < 0 || n > api.MaxNumber {
			return "", api.ErrRange
		}
	}
	for i := 1; i < len(l); i++ {
		if l[i] <= l[i-1] {
			return "", api.ErrForm
		}
	}
	if len(l) == 0 {
		return emptyList, api.OK
	}
	var parts []string
	for from := 0; from < len(l); {
		end := runEnd(l, from)
		parts = append(parts, writeRun(l[from], l[end-1]))
		from = end
	}
	return strings.Join(parts, ","), api.OK
}

// ParseList returns the numbers of a list expression.
func ParseList(s string) ([]int, api.Errno) {
	if s == emptyList {
		return nil, api.OK
	}
	spans, ok := readSpans(s)
	if !ok {
		return nil, api.ErrForm
	}
	var firsts, lasts []int64
	for _, p := range spans {
		// As the spans ascend, no number is greater than the last one of its span.
		last, e := Int(p.last, 0, api.MaxNumber)
		if e != api.OK {
			return nil, e
		}
		first, _ := Int(p.first, 0, api.MaxNumber)
		firsts, lasts = append(firsts, first), append(lasts, last)
	}
	many := int64(0)
	for i := range firsts {
		many += lasts[i] - firsts[i] + 1
	}
	if many > api.MaxListed {
		return nil, api.ErrLong
	}
	l := make([]int, 0, many)
	for i := range firsts {
		for n := firsts[i]; n <= lasts[i]; n++ {
			l = append(l, int(n))
		}
	}
	return l, api.OK
}

// runEnd returns the index after the run of consecutive numbers that begins at from.
func runEnd(l []int, from int) int {
	end := from + 1
	for end < len(l) && l[end] == l[end-1]+1 {
		end++
	}
	return end
}

// writeRun returns the expression of the numbers from first to last.
func writeRun(first, last int) string {
	if first == last {
		return Digits(int64(first))
	}
	return Digits(int64(first)) + "-" + Digits(int64(last))
}

// readSpans reads the runs of an expression, which must be maximal and ascend.
func readSpans(s string) ([]span, bool) {
	var spans []span
	for _, part := range strings.Split(s, ",") {
		p, ok := readSpan(part)
		if !ok {
			return nil, false
		}
		// A run that begins right after the one before it would be a part of it.
		if n := len(spans); n > 0 && !lower(successor(spans[n-1].last), p.first) {
			return nil, false
		}
		spans = append(spans, p)
	}
	return spans, true
}

// readSpan reads a run: a number, or two with a hyphen between them.
func readSpan(s string) (span, bool) {
	first, last, two := strings.Cut(s, "-")
	if !two {
		return span{first, first}, natural(first)
	}
	return span{first, last}, natural(first) && natural(last) && lower(first, last)
}

// lower reports whether the number a is less than b; both are decimal forms of any length.
func lower(a, b string) bool {
	if len(a) != len(b) {
		return len(a) < len(b)
	}
	return a < b
}

// successor returns the decimal form of the next number.
func successor(s string) string {
	out := []byte(s)
	for i := len(out) - 1; i >= 0; i-- {
		if out[i] != '9' {
			out[i]++
			return string(out)
		}
		out[i] = '0'
	}
	return "1" + string(out)
}

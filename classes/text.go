package classes

import (
	"strings"

	"dragnet/api"
)

const (
	hexDigits = "0123456789abcdef"

	// digitBits is how many bits of a byte a hexadecimal digit stands for, byteDigits how many digits a byte has.
	digitBits  = 4
	byteDigits = 2

	// marks are the bytes that mean something else in a class, unless a backslash is before them.
	marks = `[]\^-`

	// firstShown and lastShown are the first and the last byte that may stand for themselves.
	firstShown = 33
	lastShown  = 126
)

// Print returns the text of a set.
func Print(s api.ClSet) string {
	text := []byte{'['}
	// Of a set and its complement the smaller one is written.
	if Count(s) > allBytes/2 {
		text = append(text, '^')
		s = Not(s)
	}
	for _, run := range Runs(s) {
		text = appendRun(text, run[0], run[1])
	}
	return string(append(text, ']'))
}

// Parse returns the set of a text that is a class.
func Parse(text string) (s api.ClSet, at int, e api.Errno) {
	s, at, e = Prefix(text)
	if e != api.OK {
		return api.ClSet{}, at, e
	}
	if at < len(text) {
		return api.ClSet{}, at, api.ErrForm
	}
	return s, 0, api.OK
}

// Prefix returns the set of the class with which a text begins, and how long the class is.
func Prefix(text string) (s api.ClSet, n int, e api.Errno) {
	at, ok := skip(text, 0, '[')
	if !ok {
		return api.ClSet{}, at, api.ErrForm
	}
	at, others := skip(text, at, '^')
	for {
		after, closed := skip(text, at, ']')
		if closed && others {
			return Not(s), after, api.OK
		}
		if closed {
			return s, after, api.OK
		}
		part, after, ok := readPart(text, at)
		if !ok {
			return api.ClSet{}, after, api.ErrForm
		}
		s, at = Union(s, part), after
	}
}

// appendRun appends the string of a run. A hyphen would make a run of two bytes longer, not shorter.
func appendRun(text []byte, low, high byte) []byte {
	text = appendByte(text, low)
	if low == high {
		return text
	}
	if high-low > 1 {
		text = append(text, '-')
	}
	return appendByte(text, high)
}

// appendByte appends the text of a byte.
func appendByte(text []byte, b byte) []byte {
	if isMark(b) {
		return append(text, '\\', b)
	}
	if isPlain(b) {
		return append(text, b)
	}
	return append(text, '\\', 'x', hexDigits[b>>digitBits], hexDigits[b&(1<<digitBits-1)])
}

// readPart reads the byte or the range of bytes that begins at an index. It returns the index after it, or, if there is none, the index at which this is clear.
func readPart(text string, from int) (part api.ClSet, at int, ok bool) {
	low, at, ok := readByte(text, from)
	if !ok {
		return api.ClSet{}, at, false
	}
	second, ranged := skip(text, at, '-')
	if !ranged {
		return Of([]byte{low}), at, true
	}
	high, at, ok := readByte(text, second)
	if !ok {
		return api.ClSet{}, at, false
	}
	part, e := Range(int(low), int(high))
	if e != api.OK {
		return api.ClSet{}, second, false
	}
	return part, at, true
}

// readByte reads the byte that is written at an index. It returns the index after it, or, if there is none, the index at which this is clear.
func readByte(text string, from int) (b byte, at int, ok bool) {
	at, escaped := skip(text, from, '\\')
	if at == len(text) {
		return 0, at, false
	}
	b = text[at]
	if escaped && b == 'x' {
		return readHex(text, at+1)
	}
	if escaped == isMark(b) && isPlain(b) {
		return b, at + 1, true
	}
	return 0, at, false
}

// readHex reads the digits of a byte. It returns the index after them, or of the first byte that is none.
func readHex(text string, from int) (b byte, at int, ok bool) {
	for at = from; at < from+byteDigits; at++ {
		if at == len(text) {
			return 0, at, false
		}
		digit := strings.IndexByte(hexDigits, text[at])
		if digit < 0 {
			return 0, at, false
		}
		b = b<<digitBits | byte(digit)
	}
	return b, at, true
}

// skip returns the index after the byte b, if it is at this index, otherwise the same index.
func skip(text string, at int, b byte) (after int, ok bool) {
	if at < len(text) && text[at] == b {
		return at + 1, true
	}
	return at, false
}

// isMark reports whether b means something else in a class.
func isMark(b byte) bool {
	return strings.IndexByte(marks, b) >= 0
}

// isPlain reports whether b can be seen in a line.
func isPlain(b byte) bool {
	return firstShown <= b && b <= lastShown
}

package words

import (
	"strings"

	"dragnet/api"
)

// escape is the value of a byte that is written as a backslash and a letter.
type escape struct{ value, letter byte }

// escapes are the bytes with a letter of their own; every other byte that is not plain is written with two hexadecimal digits.
var escapes = [5]escape{{'"', '"'}, {'\\', '\\'}, {'\n', 'n'}, {'\r', 'r'}, {'\t', 't'}}

const hexDigits = "0123456789abcdef"

// Quote returns the quoted form of s.
func Quote(s string) string {
	out := make([]byte, 0, len(s)+2)
	out = append(out, '"')
	for i := range len(s) {
		out = appendEscaped(out, s[i])
	}
	return string(append(out, '"'))
}

// Unquote returns the string whose quoted form is s.
func Unquote(s string) (string, api.Errno) {
	text, n := quotedPrefix(s)
	if n == 0 || n < len(s) {
		return "", api.ErrForm
	}
	return text, api.OK
}

// plain reports whether a byte stands for itself in the quoted form.
func plain(b byte) bool {
	return ' ' <= b && b <= '~' && b != '"' && b != '\\'
}

// appendEscaped appends a byte as the quoted form has it.
func appendEscaped(out []byte, b byte) []byte {
	if plain(b) {
		return append(out, b)
	}
	for _, e := range escapes {
		if e.value == b {
			return append(out, '\\', e.letter)
		}
	}
	return append(out, '\\', 'x', hexDigits[b>>4], hexDigits[b&15])
}

// quotedPrefix returns the string whose quoted form s begins with, and how many bytes this form has: 0 if s does not begin with one.
func quotedPrefix(s string) (text string, n int) {
	if s == "" || s[0] != '"' {
		return "", 0
	}
	var out []byte
	for at := 1; at < len(s); {
		if s[at] == '"' {
			return string(out), at + 1
		}
		b, size := unescape(s[at:])
		if size == 0 {
			return "", 0
		}
		out = append(out, b)
		at += size
	}
	return "", 0
}

// unescape returns the byte that the beginning of s, which is not empty, stands for, and how many bytes of s do so: 0 if it stands for none.
func unescape(s string) (b byte, size int) {
	if plain(s[0]) {
		return s[0], 1
	}
	if s[0] != '\\' || len(s) < 2 {
		return 0, 0
	}
	for _, e := range escapes {
		if e.letter == s[1] {
			return e.value, 2
		}
	}
	return unescapeHex(s)
}

// unescapeHex does the same for a byte that is written with two digits.
func unescapeHex(s string) (b byte, size int) {
	if len(s) < 4 || s[1] != 'x' {
		return 0, 0
	}
	high := strings.IndexByte(hexDigits, s[2])
	low := strings.IndexByte(hexDigits, s[3])
	if high < 0 || low < 0 {
		return 0, 0
	}
	b = byte(high<<4 | low)
	// A byte that is written in a shorter way has no second form.
	if string(appendEscaped(nil, b)) != s[:4] {
		return 0, 0
	}
	return b, 4
}

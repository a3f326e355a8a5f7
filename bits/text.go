package bits

import (
	"strings"

	"dragnet/api"
)

const (
	hexDigits = "0123456789abcdef"

	// digitBits is how many bits a hexadecimal digit stands for, wordDigits how many digits a word has.
	digitBits  = 4
	wordDigits = wordBits / digitBits

	// maxRowText is how long the text of the longest row is: its words, with points between them.
	maxRowText = api.MaxRow*(wordDigits+1) - 1
)

// Print returns the text of a row.
func Print(w []uint64) (string, api.Errno) {
	if e := Check(w); e != api.OK {
		return "", e
	}
	var text []byte
	for n := range len(w) {
		if n > 0 {
			text = append(text, '.')
		}
		text = appendWord(text, w[len(w)-1-n])
	}
	return string(text), api.OK
}

// Parse returns the row of a text.
func Parse(s string) ([]uint64, api.Errno) {
	if len(s) > maxRowText {
		return nil, api.ErrLong
	}
	// Parts of the right length cannot be too many: the text would be too long.
	parts := strings.Split(s, ".")
	w := make([]uint64, len(parts))
	for n := range len(parts) {
		word, ok := readWord(parts[n])
		if !ok {
			return nil, api.ErrForm
		}
		w[len(w)-1-n] = word
	}
	return w, api.OK
}

// appendWord appends the digits of a word, the highest one first.
func appendWord(text []byte, word uint64) []byte {
	for n := range wordDigits {
		digit := word >> (wordBits - digitBits*(n+1)) & (1<<digitBits - 1)
		text = append(text, hexDigits[digit])
	}
	return text
}

// readWord reads the digits of a word.
func readWord(s string) (word uint64, ok bool) {
	if len(s) != wordDigits {
		return 0, false
	}
	for i := range len(s) {
		digit := strings.IndexByte(hexDigits, s[i])
		if digit < 0 {
			return 0, false
		}
		word = word<<digitBits | uint64(digit)
	}
	return word, true
}

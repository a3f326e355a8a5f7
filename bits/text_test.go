package bits_test

import (
	"fmt"
	"math/rand"
	"slices"
	"strings"
	"testing"

	"dragnet/api"
	"dragnet/bits"
)

// texts are texts of rows, and the rows.
var texts = map[string][]uint64{
	"0000000000000000":                                          {0},
	"00000000000000ff":                                          {255},
	"0123456789abcdef":                                          {0x0123456789abcdef},
	"fedcba9876543210":                                          {0xfedcba9876543210},
	"8000000000000000":                                          {1 << 63},
	"ffffffffffffffff":                                          {1<<64 - 1},
	"0000000000000000.0000000000000000":                         {0, 0},
	"0000000000000001.8000000000000001":                         {1<<63 | 1, 1},
	"0000000000000003.0000000000000002.a000000000000001":        {0xa000000000000001, 2, 3},
	strings.Repeat("ffffffffffffffff.", 7) + "fffffffffffffffe": {1<<64 - 2, 1<<64 - 1, 1<<64 - 1, 1<<64 - 1, 1<<64 - 1, 1<<64 - 1, 1<<64 - 1, 1<<64 - 1},
}

func TestPrint(t *testing.T) {
	for want, w := range texts {
		if s, e := bits.Print(w); s != want || e != api.OK {
			t.Errorf("Print(%x): %s, %d", w, s, e)
		}
	}
}

func TestParse(t *testing.T) {
	for s, want := range texts {
		if w, e := bits.Parse(s); !slices.Equal(w, want) || e != api.OK {
			t.Errorf("Parse(%s): %x, %d", s, w, e)
		}
	}
}

func TestParseForm(t *testing.T) {
	const word = "00000000000000ff"
	for _, s := range []string{
		"", ".", "..", "f", "ff", word[1:], "0" + word, word + "0", word + word, "0x" + word, "0x" + word[2:], word[2:],
		"00000000000000FF", "000000000000000A", "000000000000000g", "000000000000000`", "000000000000000/", "000000000000000:", "000000000000000 ", " " + word[1:], "+" + word[1:], "-" + word[1:], "0000_0000_0000ff", "000000000000000\n", "00000000000000\xc3\xa9", "000000000000000\xff", "000000000000000\x00", "0000000000000000\n",
		"." + word, word + ".", word + ".." + word, word + ".f", "f." + word, word[1:] + ".0" + word, word + "0." + word[1:],
		word + " " + word, word + "," + word, word + ":" + word, word + "\n" + word, word + "0" + word, word + ". " + word[1:],
		word + ".00000000000000FF", "00000000000000FF." + word, word + "." + word + ".", "." + word + "." + word,
		// As long as the longest text, but none.
		strings.Repeat("0", 135), strings.Repeat(".", 135), strings.Repeat("0", 17*7) + word, strings.Repeat(word+".", 7) + word[1:] + ".", "." + strings.Repeat(word+".", 7) + word[1:], strings.Repeat("g", 135), strings.Repeat(word+".", 7),
	} {
		if w, e := bits.Parse(s); len(w) != 0 || e != api.ErrForm {
			t.Errorf("Parse(%q): %x, %d", s, w, e)
		}
	}
}

// TestParseLong: the length of the text comes first.
func TestParseLong(t *testing.T) {
	const word = "00000000000000ff"
	longest := strings.Repeat(word+".", 7) + word
	if w, e := bits.Parse(longest); !slices.Equal(w, slices.Repeat([]uint64{255}, 8)) || e != api.OK {
		t.Errorf("Parse of 8 words: %x, %d", w, e)
	}
	for _, s := range []string{
		longest + ".", longest + "0", "0" + longest, longest + "\n", longest + "." + word, strings.Repeat("g", 136), strings.Repeat(".", 136), strings.Repeat("0", 1<<20),
	} {
		if w, e := bits.Parse(s); len(w) != 0 || e != api.ErrLong {
			t.Errorf("Parse(%.160q): %x, %d", s, w, e)
		}
	}
}

// TestTextBytes puts every byte at every place of a text.
func TestTextBytes(t *testing.T) {
	const text = "0123456789abcdef.fedcba9876543210"
	for at := range len(text) {
		for b := range 256 {
			s := text[:at] + string([]byte{byte(b)}) + text[at+1:]
			may := b >= '0' && b <= '9' || b >= 'a' && b <= 'f'
			if at == 16 {
				may = b == '.'
			}
			w, e := bits.Parse(s)
			if !may {
				if len(w) != 0 || e != api.ErrForm {
					t.Fatalf("Parse(%q): %x, %d", s, w, e)
				}
				continue
			}
			if e != api.OK || len(w) != 2 || fmt.Sprintf("%016x.%016x", w[1], w[0]) != s {
				t.Fatalf("Parse(%q): %x, %d", s, w, e)
			}
		}
	}
}

// TestTextBothWays: Parse of Print is the row, Print of Parse the text (P2.8).
func TestTextBothWays(t *testing.T) {
	for _, w := range someRows() {
		s, e := bits.Print(w)
		if len(s) != 17*len(w)-1 || e != api.OK {
			t.Fatalf("Print(%x): %s, %d", w, s, e)
		}
		if u, e := bits.Parse(s); !slices.Equal(u, w) || e != api.OK {
			t.Fatalf("Parse of Print(%x): %x, %d", w, u, e)
		}
	}
	r := rand.New(rand.NewSource(5))
	for range 20000 {
		s := anyText(r)
		w, e := bits.Parse(s)
		if e == api.OK {
			if got, e := bits.Print(w); got != s || e != api.OK {
				t.Fatalf("Print of Parse(%q): %q, %d", s, got, e)
			}
		} else if len(w) != 0 || e != api.ErrForm {
			t.Fatalf("Parse(%q): %x, %d", s, w, e)
		}
	}
}

// anyText returns the text of a row, or nearly so.
func anyText(r *rand.Rand) string {
	var words []string
	for range 1 + r.Intn(3) {
		words = append(words, fmt.Sprintf("%016x", r.Uint64()))
	}
	s := []byte(strings.Join(words, "."))
	if r.Intn(2) == 0 {
		s[r.Intn(len(s))] = "0f.gFA \x00"[r.Intn(8)]
	}
	return string(s)
}

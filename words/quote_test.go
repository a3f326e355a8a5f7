package words_test

import (
	"math/rand"
	"strings"
	"testing"

	"dragnet/api"
	"dragnet/words"
)

// quotedForms are strings and their quoted forms.
var quotedForms = map[string]string{
	"":                 `""`,
	"a":                `"a"`,
	"a b":              `"a b"`,
	" ":                `" "`,
	"~":                `"~"`,
	"a\n\x00\"":        `"a\n\x00\""`,
	"\\":               `"\\"`,
	"\"":               `"\""`,
	"\\\"\n\r\t":       `"\\\"\n\r\t"`,
	"\\n":              `"\\n"`,
	"\\x41":            `"\\x41"`,
	"\x1f\x7f\x80\xff": `"\x1f\x7f\x80\xff"`,
	"\a\b\f\v":         `"\x07\x08\x0c\x0b"`,
	"\xc3\xa9":         `"\xc3\xa9"`,
	"'/[]^-":           `"'/[]^-"`,
}

func TestQuote(t *testing.T) {
	for s, want := range quotedForms {
		if got := words.Quote(s); got != want {
			t.Errorf("Quote(%q): %s, want %s", s, got, want)
		}
	}
}

func TestUnquote(t *testing.T) {
	for want, s := range quotedForms {
		if got, e := words.Unquote(s); got != want || e != api.OK {
			t.Errorf("Unquote(%s): %q, %d", s, got, e)
		}
	}
}

func TestUnquoteForm(t *testing.T) {
	for _, s := range []string{
		``, `"`, `a`, `"a`, `a"`, `'a'`, ` "a"`, `"a" `, `"a"b`, `"a"b"`, `"a""b"`, `"""`, "\"a\"\n",
		`"\"`, `"\`, `"\q"`, `"\N"`, `"\a"`, `"\0"`, `"\/"`, `"\'"`, `"\ "`, `"\u0041"`, `"\101"`,
		`"\x"`, `"\x0"`, `"\x0`, `"\x00`, `"\x0g"`, `"\xg0"`, `"\X00"`, `"\x 0"`, `"\x-1"`,
		`"\x41"`, `"\x20"`, `"\x7e"`, `"\x7F"`, `"\xFF"`, `"\xfF"`, `"\x22"`, `"\x5c"`, `"\x0a"`, `"\x0d"`, `"\x09"`,
		"\"\n\"", "\"\t\"", "\"\x00\"", "\"\x1f\"", "\"\x7f\"", "\"\x80\"", "\"\xff\"", "\"\xc3\xa9\"",
	} {
		if got, e := words.Unquote(s); got != "" || e != api.ErrForm {
			t.Errorf("Unquote(%q): %q, %d", s, got, e)
		}
	}
}

// TestQuoteBytes looks at every byte, alone and between others.
func TestQuoteBytes(t *testing.T) {
	short := map[byte]string{'"': `\"`, '\\': `\\`, 10: `\n`, 13: `\r`, 9: `\t`}
	for i := range 256 {
		b := byte(i)
		want, ok := short[b]
		if !ok {
			want = string([]byte{b})
			if b < 32 || b > 126 {
				want = `\x` + "0123456789abcdef"[b/16:b/16+1] + "0123456789abcdef"[b%16:b%16+1]
			}
		}
		s := "a" + string([]byte{b}) + "b"
		if got := words.Quote(s); got != `"a`+want+`b"` {
			t.Errorf("Quote of the byte %d: %s", b, got)
		}
		if got, e := words.Unquote(`"a` + want + `b"`); got != s || e != api.OK {
			t.Errorf("Unquote of the byte %d: %q, %d", b, got, e)
		}
	}
}

// TestQuoteLong: neither function has a limit.
func TestQuoteLong(t *testing.T) {
	s := strings.Repeat("\x00a\"", 1<<20)
	q := words.Quote(s)
	if q != `"`+strings.Repeat(`\x00a\"`, 1<<20)+`"` {
		t.Error("Quote of a long string")
	}
	if got, e := words.Unquote(q); got != s || e != api.OK {
		t.Errorf("Unquote of a long string: %d", e)
	}
}

// TestQuoteBothWays: each string has exactly one quoted form (P1.7).
func TestQuoteBothWays(t *testing.T) {
	r := rand.New(rand.NewSource(2))
	for range 5000 {
		s := anyText(r, 40)
		if got, e := words.Unquote(words.Quote(s)); got != s || e != api.OK {
			t.Fatalf("Unquote of Quote(%q): %q, %d", s, got, e)
		}
	}
	textsOver("\"\\nx0af2", 6, func(s string) {
		got, e := words.Unquote(s)
		if e == api.OK && words.Quote(got) != s || e != api.OK && (got != "" || e != api.ErrForm) {
			t.Fatalf("Unquote(%q): %q, %d", s, got, e)
		}
	})
}

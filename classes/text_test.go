package classes_test

import (
	"fmt"
	"strings"
	"testing"

	"dragnet/api"
	"dragnet/classes"
)

// textOf returns the text of a byte in a class.
func textOf(b byte) string {
	switch {
	case strings.ContainsRune(`[]\^-`, rune(b)):
		return `\` + string(rune(b))
	case 33 <= b && b <= 126:
		return string(rune(b))
	}
	return fmt.Sprintf(`\x%02x`, b)
}

// printOf returns the text of a set, by definition.
func printOf(m model) string {
	head := "["
	if len(m.bytes()) > 128 {
		head = "[^"
		for b := range m {
			m[b] = !m[b]
		}
	}
	for _, r := range runsOf(m) {
		switch low, high := textOf(r[0]), textOf(r[1]); int(r[1]) - int(r[0]) {
		case 0:
			head += low
		case 1:
			head += low + high
		default:
			head += low + "-" + high
		}
	}
	return head + "]"
}

// TestPrint: the text of a set, which is read as the set again (P3.3, P3.6).
func TestPrint(t *testing.T) {
	texts := map[string]api.ClSet{}
	for _, m := range someModels() {
		text := classes.Print(m.set())
		if text != printOf(m) {
			t.Errorf("Print of %v = %s, not %s", m.bytes(), text, printOf(m))
		}
		if s, at, e := classes.Parse(text); s != m.set() || at != 0 || e != api.OK {
			t.Errorf("Parse(%s) = %x, %d, %d", text, s, at, e)
		}
		if other, ok := texts[text]; ok && other != m.set() {
			t.Errorf("%x and %x have the same text %s", other, m.set(), text)
		}
		texts[text] = m.set()
	}
}

// TestPrintBytes: the set of each byte, of each two, and of each three that follow each other, and of all others.
func TestPrintBytes(t *testing.T) {
	for b := range 256 {
		for n := range 5 {
			in := only(func(c int) bool { return b <= c && c <= b+n })
			out := only(func(c int) bool { return !in[c] })
			for _, m := range []model{in, out} {
				text := classes.Print(m.set())
				if text != printOf(m) {
					t.Fatalf("Print of %v = %s, not %s", m.bytes(), text, printOf(m))
				}
				if s, at, e := classes.Parse(text); s != m.set() || at != 0 || e != api.OK {
					t.Fatalf("Parse(%s) = %x, %d, %d", text, s, at, e)
				}
			}
		}
	}
}

// TestPrintExamples: the chapter's examples, and sets of 128 and 129 bytes.
func TestPrintExamples(t *testing.T) {
	for _, c := range []struct {
		m    model
		want string
	}{
		{modelOf('a', 'b', 'c', 'x', '0'), "[0a-cx]"},
		{modelOf('-', '^'), `[\-\^]`},
		{modelOf('a', 'b'), "[ab]"},
		{only(func(int) bool { return true }), "[^]"},
		{model{}, "[]"},
		{only(func(b int) bool { return b != ' ' }), `[^\x20]`},
		{only(func(b int) bool { return b < 128 }), `[\x00-\x7f]`},
		{only(func(b int) bool { return b >= 128 }), `[\x80-\xff]`},
		{only(func(b int) bool { return b <= 128 }), `[^\x81-\xff]`},
		{modelOf('[', '\\', ']', '^', '-', ' ', '!', '~', 127), `[\x20!\-\[-\^~\x7f]`},
	} {
		if text := classes.Print(c.m.set()); text != c.want {
			t.Errorf("Print of %v = %s, not %s", c.m.bytes(), text, c.want)
		}
	}
}
